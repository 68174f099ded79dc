/- For all lists of integers, all sets and all integers, Of, Members, All, Has, With, Without and Next match the specification: the law BitsNumbers returns true. Conditions: the listed variables of Go's library hold what their text lays. -/
import Derived.Test.YtjifajigigflkaaDoorQe
import Derived.Test.YtjifajigigflkaaDoorQf
import Derived.ChangeSlices
import Derived.RangeFuncBox
import Derived.Deep.Cut
namespace Go.Proofs.YtjifajigigflkaaDoor
set_option linter.unusedSimpArgs false
set_option linter.unusedVariables false
open Go Go.RowKit
section
variable {P : Program} {ops : Array Oper} {C : Cl} {L : List Value} {K : Env → Prop} {o : Oper} {rest : List Oper} {E : Env} {d : Nat}
theorem chain_idx (v : Value) (t : TypeId) (x y : Operand) (a b : Value) (hr : ∀ w, C.C w → C.R w w) (hd : o.dst = some d) (ho : o.op = .indexAddr t x y) (hw : wantB ops o E L = true) (he : exB ops o E = true)
    (hx : evE E L x = a) (hy : evE E L y = b) (h : ∀ w, (Instr.indexAt t a b).run P w = .ok v w) (hk : chain P ops C L rest ((d, .ex v) :: E) K) : chain P ops C L (o :: rest) E K :=
  chain_val v hr hd (fun cs b e => by rw [ho] at e; cases e) hw he (fun w hC => by
    have := h w
    simp only [execOp, ho, hx, hy]
    rw [Sem.run_bind, this]; rfl) hk
theorem chain_ext (v : Value) (x : Operand) (i : Nat) (vs : Array Value) (hr : ∀ w, C.C w → C.R w w) (hd : o.dst = some d) (ho : o.op = .extract x i) (hw : wantB ops o E L = true) (he : exB ops o E = true)
    (hx : evE E L x = .tuple vs) (hv : vs[i]? = some v) (hk : chain P ops C L rest ((d, .ex v) :: E) K) : chain P ops C L (o :: rest) E K :=
  chain_val v hr hd (fun cs b e => by rw [ho] at e; cases e) hw he (fun w hC => by
    simp only [execOp, ho, hx]
    simp [go_sem, Instr.extract, hv]) hk
theorem chain_len (v : Value) (c : Call) (x : Operand) (a : Value) (t : TypeId) (hr : ∀ w, C.C w → C.R w w) (hd : o.dst = some d) (ho : o.op = .call c) (hc : c.callee = .builtin .len) (hxs : c.args = #[x]) (ht : c.argTypes = #[t]) (hw : wantB ops o E L = true) (he : exB ops o E = true)
    (hx : evE E L x = a) (h : ∀ (ty : TypeId) (cs : Array Bool) w, (builtin .len #[t] ty cs #[a]).run P w = .ok (.value v) w) (hk : chain P ops C L rest ((d, .ex v) :: E) K) : chain P ops C L (o :: rest) E K :=
  chain_val v hr hd (fun cs b e => by rw [ho] at e; cases e) hw he (fun w hC => by
    simp [execOp, ho, resolve, hc, hxs, ht, invoke, hx, h]) hk
end
theorem run_len_slice (a : Option Addr) (n cap : Nat) (ty : TypeId) (cs : Array Bool) (w : World) : (builtin .len #[22] ty cs #[.slice a n cap]).run Tryd.prog w = .ok (.value (.int .i64 n)) w := by
  simp [go_sem, builtin, Builtin.len_, run_underlying Tryd.underlying22]
theorem sub_small (t : TypeId) (x y : Operand) (a b s : Int) (h : a - b = s) (hs : -9223372036854775808 ≤ s ∧ s < 9223372036854775808) (w : World) :
    (do eqGuard .sub t x y (.int .i64 a) (.int .i64 b); binOp .sub t (.int .i64 a) (.int .i64 b) : Sem Value).run Tryd.prog w = .ok (.int .i64 s) w := by
  subst h
  have e := IntWalk.i64_in (a - b) (by omega)
  simp [go_sem]
  exact e
theorem leq_int (t : TypeId) (x y : Operand) (a b : Int) (p : Bool) (h : decide (a ≤ b) = p) (w : World) :
    (do eqGuard .leq t x y (.int .i64 a) (.int .i64 b); binOp .leq t (.int .i64 a) (.int .i64 b) : Sem Value).run Tryd.prog w = .ok (.bool p) w := by
  subst h; simp [go_sem]
theorem gtr_int (t : TypeId) (x y : Operand) (a b : Int) (p : Bool) (h : decide (b < a) = p) (w : World) :
    (do eqGuard .gtr t x y (.int .i64 a) (.int .i64 b); binOp .gtr t (.int .i64 a) (.int .i64 b) : Sem Value).run Tryd.prog w = .ok (.bool p) w := by
  subst h; simp [go_sem]
theorem idx_int (b o n cap k : Nat) (h : k < n) (w : World) : (Instr.indexAt 22 (.slice (some ⟨b, o, none⟩) n cap) (.int .i64 k)).run Tryd.prog w = .ok (.pointer (some ⟨b, o + k, none⟩)) w := by
  simp [go_sem, Instr.indexAt, h]
theorem ints_new1 {w0 w : World} {ρ : Operand → Value} {o : Oper} {x : Operand} {a : Int} (ho : o.op = .buildSlice 22 1 #[(0, x)]) (hx : ρ x = .int .i64 a) (hC : (clOld w0).C w) :
    ∃ u w', (execOp ρ o).run Tryd.prog w = .ok (.value u) w' ∧ (clOld w0).R w w' ∧ ints_w [a] u w' :=
  ints_new (xs := [a]) (by simp [execOp, ho, hx, go_sem, Instr.buildSlice]) hC
end Go.Proofs.YtjifajigigflkaaDoor
namespace Go.Proofs.YtjifajigigflkaaDoor
set_option linter.unusedSimpArgs false
set_option linter.unusedVariables false
open Go Go.RowKit Go.ChangeShapes Go.WideShapes
theorem cellsInt : Tryd.prog.cellsOf 3 = 1 := by kernel_rfl
variable {H : Type} {enc : TypeId × Value → H} {W : World} {base : Nat} {sp : Nat → Bool} {held : Bool}
set_option maxRecDepth 100000 in
theorem open_il {r : Reach} {b0 : Nat} {v : Value} {d : DataW H} {ps : List MemPlace} (hval : Value.okWide Tryd.prog W r b0 22 v) (hd : DataW.Trod enc Tryd.prog W base (fun _ => true) held 22 v d ps) :
    ∃ (a : Option Addr) (cap : Nat) (zs : List Int), v = .slice a zs.length cap ∧ zs.length ≤ cap ∧ cap ≤ maxLen ∧ (∀ z ∈ zs, (Lit.int .i64 z).wf = true) ∧ (∀ (i : Nat) (x : Int), zs[i]? = some x → ∃ ad, a = some ad ∧ W.cell? (ad.add i) = some (.int .i64 x)) ∧
      ∀ W' (sp' : Nat → Bool), (∀ b, b < W.heap.size → sp' b = true) → Below W.heap.size W W' → DataW.Trod enc Tryd.prog W' base sp' held 22 v d ps := by
  obtain ⟨a0, len, cap, rfl⟩ := okWide_slice Tryd.underlying22 hval
  obtain ⟨fuel, hf⟩ := hd
  rcases open_ints Tryd.underlying22 Tryd.underlying3 cellsInt hf with ⟨hc, hx⟩ | ⟨a, len', cap', zs, hcs, hb, hl, hm, hz, hx, hcell, hwz⟩
  · simp [Value.cells] at hc
    obtain ⟨rfl, rfl, rfl⟩ := hc
    simp only [Prod.mk.injEq] at hx
    obtain ⟨rfl, rfl⟩ := hx
    exact ⟨none, 0, [], rfl, by simp, by simp [maxLen], fun z hz => (by cases hz), fun i x h => (by simp at h), fun W' _ _ _ => shut_slice_nil Tryd.underlying22⟩
  · simp [Value.cells] at hcs
    obtain ⟨rfl, rfl, rfl⟩ := hcs
    simp only [Prod.mk.injEq] at hx
    obtain ⟨rfl, rfl⟩ := hx
    have hlz : len ≤ zs.length := by rw [hz]; split <;> omega
    have e : (zs.take len).length = len := by rw [List.length_take]; omega
    refine ⟨some a, cap, zs.take len, by rw [e], by rw [e]; exact hl, hm, fun z hz => hwz z (List.mem_of_mem_take hz), fun i x h => ?_, fun W' sp' hsp hB => ?_⟩
    · have hi : i < len := by have := (List.getElem?_eq_some_iff.1 h).1; omega
      refine ⟨a, rfl, ?_⟩
      rw [hcell i (by omega)]
      rw [List.getElem?_take, if_pos hi] at h
      rw [List.getD, h]; rfl
    · refine ⟨_, shut_ints 0 Tryd.underlying22 Tryd.underlying3 cellsInt hb hl hm ?_ (fun i hi => ?_) hwz⟩
      · by_cases h0 : zs.length = 0
        · have hc0 : cap = 0 := by simpa [h0] using hz.symm
          split <;> omega
        · have h1 := hcell 0 (by omega)
          rw [hsp a.block (by have := block_lt_of_cell h1; simpa [Addr.add] using this)]
          simpa using hz
      have h1 := hcell i hi
      rw [World.cell?_of_block (w := W)]
      · exact h1
      · exact hB.block _ (block_lt_of_cell h1)
theorem il_cells {a : Option Addr} {zs : List Int} (h : ∀ (i : Nat) (x : Int), zs[i]? = some x → ∃ ad, a = some ad ∧ W.cell? (ad.add i) = some (.int .i64 x)) : Cells W a (zs.map (Value.int .i64)) := by
  cases zs with
  | nil => exact .inl rfl
  | cons z r =>
    obtain ⟨ad, ha, hc⟩ := h 0 z rfl
    obtain ⟨b, o, spot⟩ := ad
    have hspot : spot = none := by simpa [Addr.add] using World.cell?_spot hc
    subst hspot
    refine .inr ⟨b, o, ha, fun i v hv => ?_⟩
    rw [List.getElem?_map] at hv
    cases hz : (z :: r)[i]? with
    | none => rw [hz] at hv; cases hv
    | some x =>
      rw [hz] at hv
      obtain ⟨ad, ha2, hc2⟩ := h i x hz
      rw [ha] at ha2
      obtain rfl := Option.some.inj ha2
      have e : v = .int .i64 x := (Option.some.inj hv).symm
      rw [e, ← add_plain]; exact hc2
end Go.Proofs.YtjifajigigflkaaDoor
namespace Go.Proofs.YtjifajigigflkaaDoor
set_option linter.unusedSimpArgs false
set_option linter.unusedVariables false
open Go Go.RowKit Go.Shelf
attribute [local go_sem] equalIn_words setV Oper.semAt_some eql_func_nil

/-- What the law's worlds keep. -/
def NbS (N : Nat) (take : Int) (a : Option Addr) (vs : List Value) (b5 b7 : Nat) (w V : World) : Prop :=
  Gl V ∧ Below w.heap.size w V ∧ Blk V b5 (setA N) 25 ∧ Blk V b7 #[.int .i64 take] 3 ∧ Cells V a vs
theorem NbS.below {N : Nat} {take : Int} {a : Option Addr} {vs : List Value} {b5 b7 : Nat} {w V V' : World} (h : NbS N take a vs b5 b7 w V) (hb : Below V.heap.size V V') : NbS N take a vs b5 b7 w V' :=
  ⟨h.1.below hb, h.2.1.trans (hb.mono h.2.1.size), h.2.2.1.below hb h.2.2.1.lt, h.2.2.2.1.below hb h.2.2.2.1.lt, h.2.2.2.2.below hb⟩
theorem ofs_same (a : Option Addr) (cap : Nat) (zs : List Int) (hl : zs.length ≤ 300) : ∃ (A : Nat) (st : Int), (∀ w, Cells w a (zs.map (Value.int .i64)) → Calls Tryd.prog 17 #[.slice a zs.length cap] w fun e w' => e = .returned (.tuple #[setV A, .int .i64 st]) ∧ Below w.heap.size w w') ∧
    (∀ w, Cells w a (zs.map (Value.int .i64)) → Calls Tryd.prog 18 #[.slice a zs.length cap] w fun e w' => e = .returned (.tuple #[setV A, .int .i64 st]) ∧ Below w.heap.size w w') := by
  have h1 := fun w hc => of_any a cap zs w hc (by omega)
  have h2 := fun w hc => rOf_any a cap zs w hc (by omega)
  rw [ofV_eq] at h1 h2
  exact ⟨_, _, h1, h2⟩
theorem withs_same (N : Nat) (n : Int) : ∃ (D : Nat) (st : Int), (∀ w, Calls Tryd.prog 19 #[setV N, .int .i64 n] w fun e w' => e = .returned (.tuple #[setV D, .int .i64 st]) ∧ Below w.heap.size w w') ∧
    (∀ w, Calls Tryd.prog 20 #[setV N, .int .i64 n] w fun e w' => e = .returned (.tuple #[setV D, .int .i64 st]) ∧ Below w.heap.size w w') := by
  by_cases h : 0 ≤ n ∧ n ≤ 255
  · obtain ⟨m, rfl⟩ := Int.eq_ofNat_of_zero_le h.1
    exact ⟨_, _, fun w => with_in N m w (by omega), fun w => rWith_in N m w (by omega)⟩
  · exact ⟨0, 1, fun w => with_out N n w (by omega), fun w => rWith_out N n w (by omega)⟩
theorem lf2_own {β : Type} (w0 : World) (b : Nat) (G : β → Prop) (hb : b < w0.heap.size) : OwnFrom w0.heap.size (fun (s : β) W => LF w0 b W ∧ G s) := fun s W W' row ⟨h2, h3⟩ hg hr => by
  have hrow : ∀ k, k < w0.heap.size → some k ≠ row := fun k hk e => by have := (hr k e.symm).1; omega
  exact ⟨⟨hg.os.trans h2.1, hg.tape.trans h2.2.1, hg.output.trans h2.2.2.1, Nat.le_trans h2.2.2.2.1 hg.size, fun k hk hne => (hg.block k (Nat.lt_of_lt_of_le hk h2.2.2.2.1) (hrow k hk)).trans (h2.2.2.2.2 k hk hne)⟩, h3⟩
theorem app_LF {w0 W w1 : World} {b k m : Nat} {v v' : Value} {xs ys : List Value} {tmp : Obj} (hv : Boxed W b 22 v) (hrow : W.ownsRow w0.heap.size 3 1 v k xs) (hLF : LF w0 b W) (hown' : w1.ownsRow w0.heap.size 3 1 v' m ys) (hgrow : (W.alloc tmp).grownBy w1 v.ownBlock) :
    Boxed w1 b 22 v ∧ Boxed (w1.setCell ⟨b, 0, none⟩ v') b 22 v' ∧ (w1.setCell ⟨b, 0, none⟩ v').ownsRow w0.heap.size 3 1 v' m ys ∧ KeepsOthers W (w1.setCell ⟨b, 0, none⟩ v') ∧ LF w0 b (w1.setCell ⟨b, 0, none⟩ v') ∧ (W.heap.size ≤ (w1.setCell ⟨b, 0, none⟩ v').heap.size ∧ ∀ k, k < w0.heap.size → k ≠ b → (w1.setCell ⟨b, 0, none⟩ v').heap[k]? = W.heap[k]?) ∧ ∀ k, k < w0.heap.size → w1.heap[k]? = W.heap[k]? := by
  have hv1 : Boxed w1 b 22 v := (hv.alloc tmp).kept hgrow (hv.not_row (by decide) hrow)
  have hrb : ∀ k, k < w0.heap.size → some k ≠ v.ownBlock := fun k hk e => by
    rcases hrow.2 with ⟨rfl, _⟩ | ⟨g, cap, cur, rfl, hg, _⟩
    · simp [Value.ownBlock] at e
    · obtain rfl : k = g := by simpa [Value.ownBlock] using e
      omega
  have hfr : ∀ k, k < w0.heap.size → k ≠ b → (w1.setCell ⟨b, 0, none⟩ v').heap[k]? = W.heap[k]? := fun k hk hne => by
    have hkW : k < W.heap.size := Nat.lt_of_lt_of_le hk hLF.2.2.2.1
    rw [Below.heap_setCell _ _ _ _ (by exact hne), hgrow.block k (by simp; omega) (hrb k hk)]
    exact (below_new1 W tmp).block k hkW
  have hsz : W.heap.size ≤ (w1.setCell ⟨b, 0, none⟩ v').heap.size := by
    have h1 := hgrow.size
    have h2 : (w1.setCell ⟨b, 0, none⟩ v').heap.size = w1.heap.size := by simp [World.setCell]
    rw [h2]; simp at h1; omega
  refine ⟨hv1, hv1.set v', hown'.kept (grownBy_setCell' w1 b v') (.inr (hv1.not_row (by decide) hown').symm), ?_, ⟨?_, ?_, ?_, Nat.le_trans hLF.2.2.2.1 hsz, fun k hk hne => (hfr k hk hne).trans (hLF.2.2.2.2 k hk hne)⟩, ⟨hsz, hfr⟩, fun k hk => (hgrow.block k (by have := hLF.2.2.2.1; simp; omega) (hrb k hk)).trans ((below_new1 W tmp).block k (Nat.lt_of_lt_of_le hk hLF.2.2.2.1))⟩
  · refine ((KeepsOthers.alloc W tmp).trans (KeepsOthers.of_grownBy hgrow fun j o ej hj => ?_)).trans (KeepsOthers.setCell _ _ _)
    rcases (hrow.alloc tmp).2 with ⟨rfl, _⟩ | ⟨g, cap, cur, rfl, _, hgb, _⟩
    · simp [Value.ownBlock] at ej
    · obtain rfl : g = j := by simpa [Value.ownBlock] using ej
      rw [hgb] at hj; cases hj; rfl
  · exact hgrow.os.trans hLF.1
  · exact hgrow.tape.trans hLF.2.1
  · exact hgrow.output.trans hLF.2.2.1
/-- A slice of the members of N. -/
def memW (N ml : Nat) : Word := fun v w => ∃ a cap, v = .slice a ml cap ∧ Cells w a (intsL (mem N))
theorem memW_lasts {w0 : World} (N ml : Nat) : lasts (clOld w0) (memW N ml) := fun v w w' _ hR ⟨a, cap, hv, hB⟩ => ⟨a, cap, hv, hB.below hR⟩
theorem load_sl {w : World} {b : Nat} {a : Option Addr} {l c : Nat} (h : w.cell? ⟨b, 0, none⟩ = some (.slice a l c)) : (Instr.loadAt 22 (.pointer (some ⟨b, 0, none⟩))).run Tryd.prog w = .ok (.slice a l c) w := by
  simp [go_sem, h]
theorem intsL_map (xs : List Nat) : intsL xs = (xs.map fun (x : Nat) => (x : Int)).map (Value.int .i64) := by unfold intsL; rw [List.map_map]; rfl
theorem ints_same (a a' : Option Addr) (cap cap' k : Nat) (xs : List Nat) (w : World) (hk : k = xs.length) (hk2 : k ≤ 256) (hx : Cells w a (intsL xs)) (hy : Cells w a' (intsL xs)) :
    Calls Tryd.prog 25 #[.slice a k cap, .slice a' k cap'] w fun e w' => e = .returned (.bool true) ∧ Below w.heap.size w w' := by
  have := ints_any a a' cap cap' (xs.map fun (x : Nat) => (x : Int)) (xs.map fun (x : Nat) => (x : Int)) w (by rw [← intsL_map]; exact hx) (by rw [← intsL_map]; exact hy) (by rw [List.length_map]; omega) (by rw [List.length_map]; omega)
  rw [List.length_map, ← hk] at this
  simpa using this
theorem Cells.take {w : World} {a : Option Addr} {xs : List Nat} (h : Cells w a (intsL xs)) (k : Nat) : Cells w a (intsL (xs.take k)) := by
  rcases h with h | ⟨b, o, ha, hc⟩
  · left
    have : xs = [] := by unfold intsL at h; simpa using h
    rw [this]; simp [intsL]
  · refine .inr ⟨b, o, ha, fun i v hi => hc i v ?_⟩
    unfold intsL at hi ⊢
    rw [List.getElem?_map, List.getElem?_take] at hi
    rw [List.getElem?_map]
    split at hi
    · exact hi
    · cases hi
theorem Cells.lf {w0 W : World} {b : Nat} {a : Option Addr} {vs : List Value} (h : LF w0 b W) (hc : Cells w0 a vs) (ho : vs ≠ [] → ∀ k o, a = some ⟨k, o, none⟩ → k < b) : Cells W a vs := by
  by_cases hv : vs = []
  · exact .inl hv
  · exact h.cells hc (ho hv)
set_option maxRecDepth 100000 in
set_option maxHeartbeats 4000000 in
theorem bitsNumbers_any (hsane : SaneOk) (a : Option Addr) (cap : Nat) (zs : List Int) (N : Nat) (n take : Int) (w : World) (hg : Gl w) (hzl : zs.length ≤ 9223372036854775807) (hrd : ∀ (i : Nat) (x : Int), zs[i]? = some x → ∃ ad, a = some ad ∧ w.cell? (ad.add i) = some (.int .i64 x)) (hN : N < 2 ^ 256)
    (hn : -9223372036854775808 ≤ n ∧ n ≤ 9223372036854775807) (ht : -9223372036854775808 ≤ take ∧ take ≤ 9223372036854775807) :
    Calls Tryd.prog 3 #[.slice a zs.length cap, setV N, .int .i64 n, .int .i64 take] w fun e w' => e = .returned (.bool true) ∧ Below w.heap.size w w' := by
  have HS : Hid SaneOk := hsane
  have HG := Lib.hid hg
  have HG6 : 6 ≤ w.heap.size := hg.size
  have HC := Lib.hid (il_cells hrd)
  obtain ⟨vs, hvs⟩ : ∃ vs, vs = zs.map (Value.int .i64) := ⟨_, rfl⟩
  rw [← hvs] at HC
  have HVS := Lib.hid hvs
  have HNL := Lib.hid hN
  obtain ⟨zl, hzl2⟩ : ∃ zl, zl = zs.length := ⟨_, rfl⟩
  rw [← hzl2] at hzl ⊢
  have HZL := Lib.hid hzl2
  clear hg hrd hN hsane hvs hzl2
  obtain ⟨ht1, ht2⟩ := ht
  by_cases h300 : zl ≤ 300
  · obtain ⟨A, s1, HOf, HROf⟩ : ∃ (A : Nat) (s1 : Int), Hid (∀ w, Cells w a vs → Calls Tryd.prog 17 #[.slice a zl cap] w fun e w' => e = .returned (.tuple #[setV A, .int .i64 s1]) ∧ Below w.heap.size w w') ∧
        Hid (∀ w, Cells w a vs → Calls Tryd.prog 18 #[.slice a zl cap] w fun e w' => e = .returned (.tuple #[setV A, .int .i64 s1]) ∧ Below w.heap.size w w') := by
      rw [HZL.out] at h300 ⊢; rw [HVS.out]; exact ofs_same a cap zs h300
    obtain ⟨D, s2, HWi, HRWi⟩ : ∃ (D : Nat) (s2 : Int), Hid (∀ w, Calls Tryd.prog 19 #[setV N, .int .i64 n] w fun e w' => e = .returned (.tuple #[setV D, .int .i64 s2]) ∧ Below w.heap.size w w') ∧
        Hid (∀ w, Calls Tryd.prog 20 #[setV N, .int .i64 n] w fun e w' => e = .returned (.tuple #[setV D, .int .i64 s2]) ∧ Below w.heap.size w w') := withs_same N n
    obtain ⟨X, p, HNx, HRNx⟩ : ∃ (X : Int) (p : Bool), Hid (∀ w, Gl w → Calls Tryd.prog 21 #[setV N, .int .i64 n] w fun e w' => e = .returned (.tuple #[.int .i64 X, .bool p]) ∧ Below w.heap.size w w') ∧
        Hid (∀ w, Calls Tryd.prog 22 #[setV N, .int .i64 n] w fun e w' => e = .returned (.tuple #[.int .i64 X, .bool p]) ∧ Below w.heap.size w w') :=
      ⟨_, _, fun w hg => next_any N n w hg, fun w => by have := rNext_any N n w; rwa [nextV_eq] at this⟩
    obtain ⟨ml, hml⟩ : ∃ ml, ml = (mem N).length := ⟨_, rfl⟩
    have hml6 : ml ≤ 256 := by rw [hml]; exact mem_length N
    have HML := Lib.hid hml
    have HMe : Hid (∀ w, Calls Tryd.prog 23 #[setV N] w fun e w' => ∃ a cap, e = .returned (.slice a ml cap) ∧ ml ≤ cap ∧ Cells w' a (intsL (mem N)) ∧ Below w.heap.size w w') := fun w =>
      (rMembers_any N w).mono fun e w' ⟨v, he, hr, hb⟩ => by
        obtain ⟨p, cap, hv, hle, _⟩ := ownsRow_slice hr
        obtain ⟨_, a, cap', hv', hc, _⟩ := ownsRow_cells hr
        rw [hv] at hv'
        simp only [Value.slice.injEq] at hv'
        obtain ⟨rfl, _, rfl⟩ := hv'
        exact ⟨p, cap, by rw [he, hv, hml], by rw [hml]; exact hle, hc, hb⟩
    have HBM : Hid (∀ w, Gl w → Calls Tryd.prog 26 #[setV N] w fun e w' => ∃ u, e = .returned u ∧ Below w.heap.size w w' ∧ memW N ml u w') := fun w hg =>
      (members_any N w hg).mono fun e w' ⟨v, he, hr, hb⟩ => by
        obtain ⟨_, a, cap, hv, hc, _⟩ := ownsRow_cells hr
        exact ⟨v, he, hb, a, cap, by rw [hv, hml], hc⟩
    obtain ⟨hb_, HHa, HRHa⟩ : ∃ q : Bool, Hid (∀ w, Calls Tryd.prog 27 #[setV N, .int .i64 n] w fun e w' => e = .returned (.bool q) ∧ Below w.heap.size w w') ∧ Hid (∀ w, Calls Tryd.prog 28 #[setV N, .int .i64 n] w fun e w' => e = .returned (.bool q) ∧ Below w.heap.size w w') := ⟨_, fun w => has_any N n w, fun w => rhas_any N n w⟩
    obtain ⟨E, HWo, HRWo⟩ : ∃ E : Nat, Hid (∀ w, Calls Tryd.prog 29 #[setV N, .int .i64 n] w fun e w' => e = .returned (setV E) ∧ Below w.heap.size w w') ∧ Hid (∀ w, Calls Tryd.prog 30 #[setV N, .int .i64 n] w fun e w' => e = .returned (setV E) ∧ Below w.heap.size w w') := ⟨_, fun w => without_any N n w, fun w => rWithout_any N n w HNL.out⟩
    clear hml
    refine (callsIn_wide (n := 8)).1 (callsIn_of_wp_marks Tryd.func3 rfl trivial ?_ rfl)
    refine wpIn_wide.2 ?_
    simp only [Tryd.ntmps3, List.size_toArray, List.length_cons, List.length_nil, Nat.reduceAdd, Nat.reduceSub, Array.replicate_succ, Array.replicate_zero, List.push_toArray, List.append_toArray, List.nil_append, List.cons_append]
    simp only [setV]
    go_upto_region 3 with (first | (go_at_call 16; refine (HS.out _ (HG.out.below (below_new2 _ _ _))).mono ?_; rintro e w2 ⟨rfl, hb⟩))
    refine named (fun V => NbS N take a vs w.heap.size (w.heap.size + 1) w V) (NbS.below ⟨HG.out.below (below_new2 _ _ _), below_new2 _ _ _, (Blk.newW _ _ _).alloc _, Blk.new1 _ _ _ _, HC.out.below (below_new2 _ _ _)⟩ hb) ?_
    clear hb HS HG HC
    rintro W0 F
    replace F := Lib.hid F
    generalize hb5 : w.heap.size = b5 at F ⊢
    generalize hb7 : b5 + 1 = b7 at F ⊢
    have L5 := Lib.hid hb5; have L7 := Lib.hid hb7
    clear hb5 hb7
    go_upto_region 6 with (first | (go_at_call 17; refine (HOf.out _ F.out.2.2.2.2).mono ?_; rintro e w2 ⟨rfl, hb⟩; simp only [setV]))
    go_upto_region 6 with (first | (go_at_call 17; refine (HOf.out _ F.out.2.2.2.2).mono ?_; rintro e w2 ⟨rfl, hb⟩; simp only [setV]))
    refine named (fun V => NbS N take a vs b5 b7 w V ∧ Blk V w2.heap.size (setA A) 25) ⟨(F.out.below hb).below (below_new1 _ _), Blk.newW _ _ _⟩ ?_
    clear hb F  HOf
    rintro W1 ⟨F, Kb9⟩
    replace F := Lib.hid F; replace Kb9 := Lib.hid Kb9
    generalize w2.heap.size = b9 at Kb9 ⊢
    go_upto_region 7 with (first | (go_at_call 18; refine (HROf.out _ F.out.2.2.2.2).mono ?_; rintro e w2 ⟨rfl, hb⟩; simp only [setV]))
    refine named (fun V => NbS N take a vs b5 b7 w V ∧ Blk V b9 (setA A) 25 ∧ Blk V w2.heap.size (setA A) 25) ⟨(F.out.below hb).below (below_new1 _ _), (Kb9.out.below hb Kb9.out.lt).alloc _, Blk.newW _ _ _⟩ ?_
    clear hb F Kb9 HROf
    rintro W2 ⟨F, Kb9, Kb11⟩
    replace F := Lib.hid F; replace Kb9 := Lib.hid Kb9; replace Kb11 := Lib.hid Kb11
    generalize w2.heap.size = b11 at Kb11 ⊢
    obtain ⟨c0, c1, c2, c3, cf⟩ := F.out.2.2.1.set4
    go_upto_region 8 with (first | (go_at_call 19; refine (HWi.out _).mono ?_; rintro e w2 ⟨rfl, hb⟩; simp only [setV]))
    refine named (fun V => NbS N take a vs b5 b7 w V ∧ Blk V b9 (setA A) 25 ∧ Blk V b11 (setA A) 25 ∧ Blk V w2.heap.size (setA D) 25) ⟨(F.out.below hb).below (below_new1 _ _), (Kb9.out.below hb Kb9.out.lt).alloc _, (Kb11.out.below hb Kb11.out.lt).alloc _, Blk.newW _ _ _⟩ ?_
    clear hb F Kb9 Kb11 HWi c0 c1 c2 c3 cf
    rintro W3 ⟨F, Kb9, Kb11, Kb13⟩
    replace F := Lib.hid F; replace Kb9 := Lib.hid Kb9; replace Kb11 := Lib.hid Kb11; replace Kb13 := Lib.hid Kb13
    generalize w2.heap.size = b13 at Kb13 ⊢
    obtain ⟨c0, c1, c2, c3, cf⟩ := F.out.2.2.1.set4
    go_upto_region 9 with (first | (go_at_call 20; refine (HRWi.out _).mono ?_; rintro e w2 ⟨rfl, hb⟩; simp only [setV]))
    refine named (fun V => NbS N take a vs b5 b7 w V ∧ Blk V b9 (setA A) 25 ∧ Blk V b11 (setA A) 25 ∧ Blk V b13 (setA D) 25 ∧ Blk V w2.heap.size (setA D) 25) ⟨(F.out.below hb).below (below_new1 _ _), (Kb9.out.below hb Kb9.out.lt).alloc _, (Kb11.out.below hb Kb11.out.lt).alloc _, (Kb13.out.below hb Kb13.out.lt).alloc _, Blk.newW _ _ _⟩ ?_
    clear hb F Kb9 Kb11 Kb13 HRWi c0 c1 c2 c3 cf
    rintro W4 ⟨F, Kb9, Kb11, Kb13, Kb15⟩
    replace F := Lib.hid F; replace Kb9 := Lib.hid Kb9; replace Kb11 := Lib.hid Kb11; replace Kb13 := Lib.hid Kb13; replace Kb15 := Lib.hid Kb15
    generalize w2.heap.size = b15 at Kb15 ⊢
    obtain ⟨c0, c1, c2, c3, cf⟩ := F.out.2.2.1.set4
    go_upto_region 10 with (first | (go_at_call 21; refine (HNx.out _ F.out.1).mono ?_; rintro e w2 ⟨rfl, hb⟩))
    refine named (fun V => NbS N take a vs b5 b7 w V ∧ Blk V b9 (setA A) 25 ∧ Blk V b11 (setA A) 25 ∧ Blk V b13 (setA D) 25 ∧ Blk V b15 (setA D) 25) ⟨F.out.below hb, Kb9.out.below hb Kb9.out.lt, Kb11.out.below hb Kb11.out.lt, Kb13.out.below hb Kb13.out.lt, Kb15.out.below hb Kb15.out.lt⟩ ?_
    clear hb F Kb9 Kb11 Kb13 Kb15 HNx c0 c1 c2 c3 cf
    rintro W5 ⟨F, Kb9, Kb11, Kb13, Kb15⟩
    replace F := Lib.hid F; replace Kb9 := Lib.hid Kb9; replace Kb11 := Lib.hid Kb11; replace Kb13 := Lib.hid Kb13; replace Kb15 := Lib.hid Kb15
    obtain ⟨c0, c1, c2, c3, cf⟩ := F.out.2.2.1.set4
    go_upto_region 11 with (first | (go_at_call 22; refine (HRNx.out _).mono ?_; rintro e w2 ⟨rfl, hb⟩))
    refine named (fun V => NbS N take a vs b5 b7 w V ∧ Blk V b9 (setA A) 25 ∧ Blk V b11 (setA A) 25 ∧ Blk V b13 (setA D) 25 ∧ Blk V b15 (setA D) 25) ⟨F.out.below hb, Kb9.out.below hb Kb9.out.lt, Kb11.out.below hb Kb11.out.lt, Kb13.out.below hb Kb13.out.lt, Kb15.out.below hb Kb15.out.lt⟩ ?_
    clear hb F Kb9 Kb11 Kb13 Kb15 HRNx c0 c1 c2 c3 cf
    rintro W6 ⟨F, Kb9, Kb11, Kb13, Kb15⟩
    replace F := Lib.hid F; replace Kb9 := Lib.hid Kb9; replace Kb11 := Lib.hid Kb11; replace Kb13 := Lib.hid Kb13; replace Kb15 := Lib.hid Kb15
    obtain ⟨c0, c1, c2, c3, cf⟩ := F.out.2.2.1.set4
    go_upto_region 12 with (first | (go_at_call 23; refine (HMe.out _).mono ?_; rintro e w2 ⟨a21, cap21, rfl, hle, hm, hb⟩))
    refine named (fun V => NbS N take a vs b5 b7 w V ∧ Blk V b9 (setA A) 25 ∧ Blk V b11 (setA A) 25 ∧ Blk V b13 (setA D) 25 ∧ Blk V b15 (setA D) 25 ∧ Cells V a21 (intsL (mem N))) ⟨F.out.below hb, Kb9.out.below hb Kb9.out.lt, Kb11.out.below hb Kb11.out.lt, Kb13.out.below hb Kb13.out.lt, Kb15.out.below hb Kb15.out.lt, hm⟩ ?_
    clear hb F Kb9 Kb11 Kb13 Kb15 HMe c0 c1 c2 c3 cf hm
    rintro W7 ⟨F, Kb9, Kb11, Kb13, Kb15, HM⟩
    replace F := Lib.hid F; replace Kb9 := Lib.hid Kb9; replace Kb11 := Lib.hid Kb11; replace Kb13 := Lib.hid Kb13; replace Kb15 := Lib.hid Kb15
    replace HM := Lib.hid HM
    go_upto_region 13 with (fail)
    refine named (fun V => NbS N take a vs b5 b7 w V ∧ Blk V b9 (setA A) 25 ∧ Blk V b11 (setA A) 25 ∧ Blk V b13 (setA D) 25 ∧ Blk V b15 (setA D) 25 ∧ Cells V a21 (intsL (mem N)) ∧ Boxed V W7.heap.size 22 (.slice none 0 0)) ⟨F.out.below (below_new1 _ _), Kb9.out.alloc _, Kb11.out.alloc _, Kb13.out.alloc _, Kb15.out.alloc _, HM.out.below (below_new1 _ _), Boxed.new _ _ _⟩ ?_
    have L22 : Hid (b5 < W7.heap.size ∧ b7 < W7.heap.size ∧ b9 < W7.heap.size ∧ b11 < W7.heap.size ∧ b13 < W7.heap.size ∧ b15 < W7.heap.size ∧ w.heap.size ≤ W7.heap.size ∧ 6 ≤ w.heap.size) := ⟨F.out.2.2.1.lt, F.out.2.2.2.1.lt, Kb9.out.lt, Kb11.out.lt, Kb13.out.lt, Kb15.out.lt, F.out.2.1.size, HG6⟩
    have L21 : Hid (intsL (mem N) ≠ [] → ∀ k o, a21 = some ⟨k, o, none⟩ → k < W7.heap.size) := fun hne => Cells.old HM.out hne
    clear F Kb9 Kb11 Kb13 Kb15 HM
    rintro W8 ⟨F, Kb9, Kb11, Kb13, Kb15, HM, K22⟩
    replace F := Lib.hid F; replace Kb9 := Lib.hid Kb9; replace Kb11 := Lib.hid Kb11; replace Kb13 := Lib.hid Kb13; replace Kb15 := Lib.hid Kb15; replace HM := Lib.hid HM; replace K22 := Lib.hid K22
    generalize W7.heap.size = b22 at K22 L22 L21 ⊢
    obtain ⟨c0, c1, c2, c3, cf⟩ := F.out.2.2.1.set4
    go_upto_region 14 with (first | (go_at_call 24; refine (All_any N _).mono ?_; rintro e w2 ⟨rfl, hA, hb⟩))
    refine named (fun V => NbS N take a vs b5 b7 w V ∧ Blk V b9 (setA A) 25 ∧ Blk V b11 (setA A) 25 ∧ Blk V b13 (setA D) 25 ∧ Blk V b15 (setA D) 25 ∧ Cells V a21 (intsL (mem N)) ∧ Boxed V b22 22 (.slice none 0 0) ∧ Blk V W8.heap.size (setA N) 25) ⟨F.out.below hb, Kb9.out.below hb Kb9.out.lt, Kb11.out.below hb Kb11.out.lt, Kb13.out.below hb Kb13.out.lt, Kb15.out.below hb Kb15.out.lt, HM.out.below hb, (hb.block _ K22.out.lt).trans K22.out, hA⟩ ?_
    have LA : Hid (b22 < W8.heap.size) := K22.out.lt
    clear F Kb9 Kb11 Kb13 Kb15 HM K22 hb hA c0 c1 c2 c3 cf
    rintro W9 ⟨F, Kb9, Kb11, Kb13, Kb15, HM, K22, KA⟩
    replace F := Lib.hid F; replace Kb9 := Lib.hid Kb9; replace Kb11 := Lib.hid Kb11; replace Kb13 := Lib.hid Kb13; replace Kb15 := Lib.hid Kb15; replace HM := Lib.hid HM; replace K22 := Lib.hid K22; replace KA := Lib.hid KA
    generalize W8.heap.size = bA at KA LA ⊢
    obtain ⟨k0, kf⟩ := F.out.2.2.2.1.cell1
    have K0 := Lib.hid k0
    by_cases hpos : 0 < take
    · obtain ⟨i0, hi, hz0, hz1, hz2⟩ := info_parts infoInt
      obtain ⟨k, rfl⟩ := Int.eq_ofNat_of_zero_le (show 0 ≤ take by omega)
      have hpk : 0 < k := by omega
      have tp1 : decide (0 < k) = true := decide_eq_true hpk
      have tp2 : decide (0 < (k : Int)) = true := decide_eq_true hpos
      clear hpos
      go_upto_region 17 with (fail)
      go_wp2_with fail
      refine (wpIn_wide (n := 8)).1 ?_
      refine rangeFunc_act (F := Fence.wide) (n := 8) (fun a (x : MemOf fun _ => True) => { tmps := (a.tmps.setIfInBounds 74 (.int .i64 (x.1 : Int))).setIfInBounds 24 (.int .i64 (x.1 : Int)), defers := [] }) rfl (by decide) (gf := 69) (lb := #[.pointer (some ⟨bA, 0, none⟩)]) rfl trivial (enters_of Tryd.func69 (by kernel_rfl) rfl)
        (All1_stops (fun _ => True) N bA (8 - 1) (fun _ _ => trivial) _ F.out.1 KA.out (by decide)) Kb.trans (Kb.turn F.out.1.size KA.out.lt) (Below.refl _ _) (fun _ => rfl)
        (fun (pre : List (MemOf fun _ => True)) W => (∃ v, Boxed W b22 22 v ∧ W.ownsRow W9.heap.size 3 1 v pre.length (intsL (vals pre)) ∧ v = v) ∧ (LF W9 b22 W ∧ pre.length < k))
        (fun c pre W => (∃ v, Boxed W b22 22 v ∧ W.ownsRow W9.heap.size 3 1 v pre.length (intsL (vals pre)) ∧ v = v) ∧ (LF W9 b22 W ∧ c = Code.exit 0 ∧ pre.length = k))
        (OwnFrom.and (Own.from (holdsRow_own W9.heap.size b22 22 3 1 (fun (pre : List (MemOf fun _ => True)) => pre.length) (fun pre => intsL (vals pre)) (fun pre v => v = v)) _) (lf2_own W9 b22 _ K22.out.lt))
        (fun c => OwnFrom.and (Own.from (holdsRow_own W9.heap.size b22 22 3 1 (fun (pre : List (MemOf fun _ => True)) => pre.length) (fun pre => intsL (vals pre)) (fun pre v => v = v)) _) (lf2_own W9 b22 _ K22.out.lt))
        ⟨⟨_, K22.out, World.ownsRow_nil _ _ _ _, rfl⟩, LF.refl _ _, by simp only [List.length_nil]; omega⟩ ?assign ?body ?done ?stop
      case assign =>
        intro l x W K hK
        simp only [List.setIfInBounds_toArray, List.set_cons_succ, List.set_cons_zero] at hK
        gi_wp2
        exact hK
      case body =>
        rintro l pre x W ⟨⟨v, hv, hrow, _⟩, hLF, hlt⟩ hlen
        simp only [List.setIfInBounds_toArray, List.set_cons_succ, List.set_cons_zero]
        have hc := hv.cell
        have h7 : W.cell? ⟨b7, 0, none⟩ = some (.int .i64 k) := by rw [World.cell?_of_block (hLF.2.2.2.2 b7 F.out.2.2.2.1.lt (by have := L22.out; omega))]; exact K0.out
        have hneb : b7 ≠ b22 := by have := L22.out; omega
        by_cases hbr : k ≤ pre.length + 1
        · gi_wp2_with (gi_at_builtin; refine wpListIn_append_own _ rfl _ _ 22 rfl W9.heap.size 3 i0 (.int .i64 0) 1 8 Tryd.underlying22 hi hz0 hz1 hz2 rfl (by decide) _ _ _ rfl (hrow.alloc _) ⟨W.heap.size, 0, none⟩ 1 1 [.int .i64 (x.1 : Int)] rfl rfl (cell_one_new _ _ _) (by simp [Value.oneCell']) (by simp only [maxLen]; omega) (by omega) (by have := hLF.2.2.2.1; simp; omega) ?_; intro v' w1 hown' hgrow _; obtain ⟨g', cap', rfl⟩ := ownsRow_succ hown'; obtain ⟨hv1, hv2, hr2, hk2, hl2, ⟨hsz2, hfr2⟩, hfr1⟩ := app_LF hv hrow hLF hown' hgrow; have hc1 := hv1.cell; have hf1 := hv1.frozen; have h71 : w1.cell? ⟨b7, 0, none⟩ = some (.int .i64 k) := (World.cell?_of_block (hfr1 b7 F.out.2.2.2.1.lt)).trans h7; have A1 := Lib.hid hr2; have A2 := Lib.hid hk2; have A3 := Lib.hid hl2; have A4 : Hid (Kb bA W (w1.setCell ⟨b22, 0, none⟩ (.slice (some ⟨g', 0, none⟩) (pre.length + 1) cap'))) := ⟨hsz2, fun k hk => hfr2 k (by rcases hk with h | h; have := F.out.1.size; omega; have := KA.out.lt; omega) (by have := LA.out; have := L22.out; omega)⟩; have A5 := Lib.hid hv2; clear hr2 hk2 hl2 hsz2 hfr2 hfr1 hgrow hown')
          exact ⟨A2.out.from _, ⟨_, A5.out, by rw [vals_snoc, intsL_snoc, List.length_append]; simpa using A1.out⟩, A3.out, rfl, by rw [List.length_append]; simp; omega⟩
        · gi_wp2_with (gi_at_builtin; refine wpListIn_append_own _ rfl _ _ 22 rfl W9.heap.size 3 i0 (.int .i64 0) 1 8 Tryd.underlying22 hi hz0 hz1 hz2 rfl (by decide) _ _ _ rfl (hrow.alloc _) ⟨W.heap.size, 0, none⟩ 1 1 [.int .i64 (x.1 : Int)] rfl rfl (cell_one_new _ _ _) (by simp [Value.oneCell']) (by simp only [maxLen]; omega) (by omega) (by have := hLF.2.2.2.1; simp; omega) ?_; intro v' w1 hown' hgrow _; obtain ⟨g', cap', rfl⟩ := ownsRow_succ hown'; obtain ⟨hv1, hv2, hr2, hk2, hl2, ⟨hsz2, hfr2⟩, hfr1⟩ := app_LF hv hrow hLF hown' hgrow; have hc1 := hv1.cell; have hf1 := hv1.frozen; have h71 : w1.cell? ⟨b7, 0, none⟩ = some (.int .i64 k) := (World.cell?_of_block (hfr1 b7 F.out.2.2.2.1.lt)).trans h7; have A1 := Lib.hid hr2; have A2 := Lib.hid hk2; have A3 := Lib.hid hl2; have A4 : Hid (Kb bA W (w1.setCell ⟨b22, 0, none⟩ (.slice (some ⟨g', 0, none⟩) (pre.length + 1) cap'))) := ⟨hsz2, fun k hk => hfr2 k (by rcases hk with h | h; have := F.out.1.size; omega; have := KA.out.lt; omega) (by have := LA.out; have := L22.out; omega)⟩; have A5 := Lib.hid hv2; clear hr2 hk2 hl2 hsz2 hfr2 hfr1 hgrow hown')
          exact ⟨A2.out.from _, A4.out, ⟨_, A5.out, by rw [vals_snoc, intsL_snoc, List.length_append]; simpa using A1.out⟩, A3.out, by rw [List.length_append]; simp; omega⟩
      case done =>
        rintro D_ ys W hD hys ⟨⟨v, hv, hrow, _⟩, hLF, hlt⟩ hK
        obtain ⟨_, p22, cap22, rfl, hcs, _⟩ := ownsRow_cells hrow
        obtain ⟨T, hT0⟩ : ∃ T, T = vals ys := ⟨_, rfl⟩
        obtain ⟨TL, hTL0⟩ : ∃ TL, TL = ys.length := ⟨_, rfl⟩
        have hTL : TL = T.length := by rw [hTL0, hT0, vals_length]
        rw [← hTL0] at hv hlt
        rw [← hT0] at hcs
        have hT : T = (mem N).take k := by rw [hT0, show vals ys = mem N from hys, List.take_of_length_le]; rw [← show vals ys = mem N from hys, vals_length, ← hTL0]; omega
        clear hys hrow hT0 hTL0 hlt
        have q0 := L22.out
        have F5 := Lib.hid (hLF.blk F.out.2.2.1 (by omega))
        have F9 := Lib.hid (hLF.blk Kb9.out (by omega))
        have F11 := Lib.hid (hLF.blk Kb11.out (by omega))
        have F13 := Lib.hid (hLF.blk Kb13.out (by omega))
        have F15 := Lib.hid (hLF.blk Kb15.out (by omega))
        have h7 := (hLF.blk F.out.2.2.2.1 (by omega)).cell1
        have FM := Lib.hid (Cells.lf hLF HM.out L21.out)
        have FG := Lib.hid (hLF.gl F.out.1 (by omega))
        have FB := Lib.hid (hLF.below F.out.2.1 (by omega))
        have FK := Lib.hid hK
        have FD : Hid (w.heap.size ≤ D_) := Nat.le_trans F.out.2.1.size hD
        have F22 : Hid (Blk W b22 #[.slice p22 TL cap22] 22) := hv
        have FT := Lib.hid hcs
        have HTL := Lib.hid hTL
        have HTT := Lib.hid hT
        have HTL2 : Hid (TL ≤ 256 ∧ TL = min ml k) := by rw [Hid, hTL, hT, HML.out]; have := hml6; rw [HML.out] at this; simp; omega
        clear q0 hLF hK F Kb9 Kb11 Kb13 Kb15 KA HM K22 K0 k0 kf hv hcs hTL hT
        obtain ⟨k7, f7⟩ := h7
        by_cases htm : k < ml
        · have FW : Hid (Cells W a21 (intsL T)) := by rw [Hid, HTT.out]; exact FM.out.take k
          have e1 : TL = k := by have := HTL2.out; omega
          subst e1
          have hmx : max (TL : Int) 0 = (TL : Int) := by omega
          have hkc : TL ≤ cap21 := by omega
          go_upto_region 24 with (fail)
          refine wp_region_old 58 154 (by kernel_rfl) (by kernel_rfl) (by rfl) ?_
          simp only [List.take_succ_cons, List.take_zero, List.drop_succ_cons, List.drop_zero, List.drop_nil]
          refine chain_load (setV A) _ _ _ (fun _ _ => Below.refl _ _) rfl rfl (by kernel_rfl) (by kernel_rfl) rfl (fun w1 hC => load_set (F9.out.drew.below hC F9.out.lt)) ?_
          refine chain_load (setV A) _ _ _ (fun _ _ => Below.refl _ _) rfl rfl (by kernel_rfl) (by kernel_rfl) rfl (fun w1 hC => load_set (F11.out.drew.below hC F11.out.lt)) ?_
          refine chain_bin (.bool true) _ _ _ _ _ (setV A) (setV A) (fun _ _ => Below.refl _ _) rfl rfl (by kernel_rfl) (by kernel_rfl) rfl rfl (fun w => eql_set_same _ _ _ w) ?_
          refine chain_move (.bool true) _ (fun _ _ => Below.refl _ _) rfl rfl (by kernel_rfl) (by kernel_rfl) rfl ?_
          refine chain_move (.int .i64 s1) _ (fun _ _ => Below.refl _ _) rfl rfl (by kernel_rfl) (by kernel_rfl) rfl ?_
          refine chain_move (.int .i64 s1) _ (fun _ _ => Below.refl _ _) rfl rfl (by kernel_rfl) (by kernel_rfl) rfl ?_
          refine chain_bin (.bool true) _ _ _ _ _ (.int .i64 s1) (.int .i64 s1) (fun _ _ => Below.refl _ _) rfl rfl (by kernel_rfl) (by kernel_rfl) rfl rfl (fun w => eql_int_same _ _ _ _ w) ?_
          refine chain_pick (.bool true) _ _ _ true (fun _ _ => Below.refl _ _) rfl rfl (by kernel_rfl) (by kernel_rfl) rfl rfl ?_
          refine chain_move (.bool true) _ (fun _ _ => Below.refl _ _) rfl rfl (by kernel_rfl) (by kernel_rfl) rfl ?_
          refine chain_load (setV N) _ _ _ (fun _ _ => Below.refl _ _) rfl rfl (by kernel_rfl) (by kernel_rfl) rfl (fun w1 hC => load_set (F5.out.drew.below hC F5.out.lt)) ?_
          refine chain_call_re (memW N ml) 26 [setV N] _ _ (memW_lasts N ml) (enters_of Tryd.func26 (by kernel_rfl) rfl) rfl rfl rfl (by kernel_rfl) (by kernel_rfl) rfl rfl (fun w1 hC => HBM.out w1 (gl_old FG.out hC)) ?_
          refine chain_move (.slice a21 ml cap21) _ (fun _ _ => Below.refl _ _) rfl rfl (by kernel_rfl) (by kernel_rfl) rfl ?_
          refine chain_call_use (.bool true) 107 _ 25 (fun x => [x, .slice a21 ml cap21]) _ _ (enters_of Tryd.func25 (by kernel_rfl) rfl) rfl rfl rfl (by kernel_rfl) rfl rfl (fun _ => rfl) rfl (fun _ => rfl) (fun x w1 hC hx => by obtain ⟨a_, cap_, rfl, hcx⟩ := hx; exact ints_same a_ a21 cap_ cap21 ml (mem N) w1 HML.out hml6 hcx (Cells.below (w := W.drew) FM.out hC)) ?_
          refine chain_pick (.bool true) _ _ _ true (fun _ _ => Below.refl _ _) rfl rfl (by kernel_rfl) (by kernel_rfl) rfl rfl ?_
          refine chain_move (.bool true) _ (fun _ _ => Below.refl _ _) rfl rfl (by kernel_rfl) (by kernel_rfl) rfl ?_
          refine chain_load (setV N) _ _ _ (fun _ _ => Below.refl _ _) rfl rfl (by kernel_rfl) (by kernel_rfl) rfl (fun w1 hC => load_set (F5.out.drew.below hC F5.out.lt)) ?_
          refine chain_move (.int .i64 n) _ (fun _ _ => Below.refl _ _) rfl rfl (by kernel_rfl) (by kernel_rfl) rfl ?_
          refine chain_call (.bool hb_) 27 [setV N, .int .i64 n] _ _ (enters_of Tryd.func27 (by kernel_rfl) rfl) rfl rfl rfl (by kernel_rfl) (by kernel_rfl) rfl rfl (fun w1 _ => HHa.out w1) ?_
          refine chain_load (setV N) _ _ _ (fun _ _ => Below.refl _ _) rfl rfl (by kernel_rfl) (by kernel_rfl) rfl (fun w1 hC => load_set (F5.out.drew.below hC F5.out.lt)) ?_
          refine chain_move (.int .i64 n) _ (fun _ _ => Below.refl _ _) rfl rfl (by kernel_rfl) (by kernel_rfl) rfl ?_
          refine chain_call (.bool hb_) 28 [setV N, .int .i64 n] _ _ (enters_of Tryd.func28 (by kernel_rfl) rfl) rfl rfl rfl (by kernel_rfl) (by kernel_rfl) rfl rfl (fun w1 _ => HRHa.out w1) ?_
          refine chain_bin (.bool true) _ _ _ _ _ (.bool hb_) (.bool hb_) (fun _ _ => Below.refl _ _) rfl rfl (by kernel_rfl) (by kernel_rfl) rfl rfl (fun w => eql_bool_same _ _ _ w) ?_
          refine chain_pick (.bool true) _ _ _ true (fun _ _ => Below.refl _ _) rfl rfl (by kernel_rfl) (by kernel_rfl) rfl rfl ?_
          refine chain_move (.bool true) _ (fun _ _ => Below.refl _ _) rfl rfl (by kernel_rfl) (by kernel_rfl) rfl ?_
          refine chain_load (setV D) _ _ _ (fun _ _ => Below.refl _ _) rfl rfl (by kernel_rfl) (by kernel_rfl) rfl (fun w1 hC => load_set (F13.out.drew.below hC F13.out.lt)) ?_
          refine chain_load (setV D) _ _ _ (fun _ _ => Below.refl _ _) rfl rfl (by kernel_rfl) (by kernel_rfl) rfl (fun w1 hC => load_set (F15.out.drew.below hC F15.out.lt)) ?_
          refine chain_bin (.bool true) _ _ _ _ _ (setV D) (setV D) (fun _ _ => Below.refl _ _) rfl rfl (by kernel_rfl) (by kernel_rfl) rfl rfl (fun w => eql_set_same _ _ _ w) ?_
          refine chain_pick (.bool true) _ _ _ true (fun _ _ => Below.refl _ _) rfl rfl (by kernel_rfl) (by kernel_rfl) rfl rfl ?_
          refine chain_move (.bool true) _ (fun _ _ => Below.refl _ _) rfl rfl (by kernel_rfl) (by kernel_rfl) rfl ?_
          refine chain_move (.int .i64 s2) _ (fun _ _ => Below.refl _ _) rfl rfl (by kernel_rfl) (by kernel_rfl) rfl ?_
          refine chain_move (.int .i64 s2) _ (fun _ _ => Below.refl _ _) rfl rfl (by kernel_rfl) (by kernel_rfl) rfl ?_
          refine chain_bin (.bool true) _ _ _ _ _ (.int .i64 s2) (.int .i64 s2) (fun _ _ => Below.refl _ _) rfl rfl (by kernel_rfl) (by kernel_rfl) rfl rfl (fun w => eql_int_same _ _ _ _ w) ?_
          refine chain_pick (.bool true) _ _ _ true (fun _ _ => Below.refl _ _) rfl rfl (by kernel_rfl) (by kernel_rfl) rfl rfl ?_
          refine chain_move (.bool true) _ (fun _ _ => Below.refl _ _) rfl rfl (by kernel_rfl) (by kernel_rfl) rfl ?_
          refine chain_load (setV N) _ _ _ (fun _ _ => Below.refl _ _) rfl rfl (by kernel_rfl) (by kernel_rfl) rfl (fun w1 hC => load_set (F5.out.drew.below hC F5.out.lt)) ?_
          refine chain_move (.int .i64 n) _ (fun _ _ => Below.refl _ _) rfl rfl (by kernel_rfl) (by kernel_rfl) rfl ?_
          refine chain_call (setV E) 29 [setV N, .int .i64 n] _ _ (enters_of Tryd.func29 (by kernel_rfl) rfl) rfl rfl rfl (by kernel_rfl) (by kernel_rfl) rfl rfl (fun w1 _ => HWo.out w1) ?_
          refine chain_load (setV N) _ _ _ (fun _ _ => Below.refl _ _) rfl rfl (by kernel_rfl) (by kernel_rfl) rfl (fun w1 hC => load_set (F5.out.drew.below hC F5.out.lt)) ?_
          refine chain_move (.int .i64 n) _ (fun _ _ => Below.refl _ _) rfl rfl (by kernel_rfl) (by kernel_rfl) rfl ?_
          refine chain_call (setV E) 30 [setV N, .int .i64 n] _ _ (enters_of Tryd.func30 (by kernel_rfl) rfl) rfl rfl rfl (by kernel_rfl) (by kernel_rfl) rfl rfl (fun w1 _ => HRWo.out w1) ?_
          refine chain_bin (.bool true) _ _ _ _ _ (setV E) (setV E) (fun _ _ => Below.refl _ _) rfl rfl (by kernel_rfl) (by kernel_rfl) rfl rfl (fun w => eql_set_same _ _ _ w) ?_
          refine chain_pick (.bool true) _ _ _ true (fun _ _ => Below.refl _ _) rfl rfl (by kernel_rfl) (by kernel_rfl) rfl rfl ?_
          refine chain_move (.bool true) _ (fun _ _ => Below.refl _ _) rfl rfl (by kernel_rfl) (by kernel_rfl) rfl ?_
          refine chain_move (.int .i64 X) _ (fun _ _ => Below.refl _ _) rfl rfl (by kernel_rfl) (by kernel_rfl) rfl ?_
          refine chain_move (.int .i64 X) _ (fun _ _ => Below.refl _ _) rfl rfl (by kernel_rfl) (by kernel_rfl) rfl ?_
          refine chain_bin (.bool true) _ _ _ _ _ (.int .i64 X) (.int .i64 X) (fun _ _ => Below.refl _ _) rfl rfl (by kernel_rfl) (by kernel_rfl) rfl rfl (fun w => eql_int_same _ _ _ _ w) ?_
          refine chain_pick (.bool true) _ _ _ true (fun _ _ => Below.refl _ _) rfl rfl (by kernel_rfl) (by kernel_rfl) rfl rfl ?_
          refine chain_move (.bool true) _ (fun _ _ => Below.refl _ _) rfl rfl (by kernel_rfl) (by kernel_rfl) rfl ?_
          refine chain_move (.bool p) _ (fun _ _ => Below.refl _ _) rfl rfl (by kernel_rfl) (by kernel_rfl) rfl ?_
          refine chain_move (.bool p) _ (fun _ _ => Below.refl _ _) rfl rfl (by kernel_rfl) (by kernel_rfl) rfl ?_
          refine chain_bin (.bool true) _ _ _ _ _ (.bool p) (.bool p) (fun _ _ => Below.refl _ _) rfl rfl (by kernel_rfl) (by kernel_rfl) rfl rfl (fun w => eql_bool_same _ _ _ w) ?_
          refine chain_pick (.bool true) _ _ _ true (fun _ _ => Below.refl _ _) rfl rfl (by kernel_rfl) (by kernel_rfl) rfl rfl ?_
          refine chain_move (.bool true) _ (fun _ _ => Below.refl _ _) rfl rfl (by kernel_rfl) (by kernel_rfl) rfl ?_
          refine chain_load (.slice p22 TL cap22) _ _ _ (fun _ _ => Below.refl _ _) rfl rfl (by kernel_rfl) (by kernel_rfl) rfl (fun w1 hC => load_sl ((F22.out.drew.below hC F22.out.lt).cell1.1)) ?_
          refine chain_move (.slice a21 TL cap21) _ (fun _ _ => Below.refl _ _) rfl rfl (by kernel_rfl) (by kernel_rfl) rfl ?_
          refine chain_call (.bool true) 25 [.slice p22 TL cap22, .slice a21 TL cap21] _ _ (enters_of Tryd.func25 (by kernel_rfl) rfl) rfl rfl rfl (by kernel_rfl) (by kernel_rfl) rfl rfl (fun w1 hC => ints_same p22 a21 cap22 cap21 TL T w1 HTL.out (by have := HTL2.out; omega) (Cells.below (w := W.drew) FT.out hC) (Cells.below (w := W.drew) FW.out hC)) ?_
          refine chain_pick (.bool true) _ _ _ true (fun _ _ => Below.refl _ _) rfl rfl (by kernel_rfl) (by kernel_rfl) rfl rfl ?_
          refine chain_assign (.bool true) _ (fun _ _ => Below.refl _ _) rfl rfl (by kernel_rfl) (by kernel_rfl) rfl ?_
          refine chain_end (by rfl) ?_
          intro xs w1 hCw1 hrew1
          simp only [layE, List.foldr_cons, List.foldr_nil, List.set_cons_succ, List.set_cons_zero]
          go_wp2_with fail
          have hC : Below W.drew.heap.size W.drew w1 := hCw1
          have hK1 : w1.heap[D_]? = some (.deferred (some [])) := (hC.block D_ (Array.getElem?_eq_some_iff.1 FK.out).1).trans FK.out
          refine ⟨by simp, .inl ⟨_, _, rfl, run_takeDeferred hK1, ?_⟩⟩
          exact ⟨_, results_tmp rfl _ _ _, rfl, (old_end FB.out hCw1 FB.out.size).trans (belowK_b (w := w) (Nat.le_refl _) w1 D_ _ _ FD.out hK1 rfl rfl)⟩
        · have FW : Hid (Cells W a21 (intsL T)) := by rw [Hid, HTT.out]; exact FM.out.take k
          have e1 : TL = ml := by have := HTL2.out; omega
          subst e1
          go_upto_region 24 with (fail)
          refine wp_region_old 58 154 (by kernel_rfl) (by kernel_rfl) (by rfl) ?_
          simp only [List.take_succ_cons, List.take_zero, List.drop_succ_cons, List.drop_zero, List.drop_nil]
          refine chain_load (setV A) _ _ _ (fun _ _ => Below.refl _ _) rfl rfl (by kernel_rfl) (by kernel_rfl) rfl (fun w1 hC => load_set (F9.out.drew.below hC F9.out.lt)) ?_
          refine chain_load (setV A) _ _ _ (fun _ _ => Below.refl _ _) rfl rfl (by kernel_rfl) (by kernel_rfl) rfl (fun w1 hC => load_set (F11.out.drew.below hC F11.out.lt)) ?_
          refine chain_bin (.bool true) _ _ _ _ _ (setV A) (setV A) (fun _ _ => Below.refl _ _) rfl rfl (by kernel_rfl) (by kernel_rfl) rfl rfl (fun w => eql_set_same _ _ _ w) ?_
          refine chain_move (.bool true) _ (fun _ _ => Below.refl _ _) rfl rfl (by kernel_rfl) (by kernel_rfl) rfl ?_
          refine chain_move (.int .i64 s1) _ (fun _ _ => Below.refl _ _) rfl rfl (by kernel_rfl) (by kernel_rfl) rfl ?_
          refine chain_move (.int .i64 s1) _ (fun _ _ => Below.refl _ _) rfl rfl (by kernel_rfl) (by kernel_rfl) rfl ?_
          refine chain_bin (.bool true) _ _ _ _ _ (.int .i64 s1) (.int .i64 s1) (fun _ _ => Below.refl _ _) rfl rfl (by kernel_rfl) (by kernel_rfl) rfl rfl (fun w => eql_int_same _ _ _ _ w) ?_
          refine chain_pick (.bool true) _ _ _ true (fun _ _ => Below.refl _ _) rfl rfl (by kernel_rfl) (by kernel_rfl) rfl rfl ?_
          refine chain_move (.bool true) _ (fun _ _ => Below.refl _ _) rfl rfl (by kernel_rfl) (by kernel_rfl) rfl ?_
          refine chain_load (setV N) _ _ _ (fun _ _ => Below.refl _ _) rfl rfl (by kernel_rfl) (by kernel_rfl) rfl (fun w1 hC => load_set (F5.out.drew.below hC F5.out.lt)) ?_
          refine chain_call_re (memW N TL) 26 [setV N] _ _ (memW_lasts N TL) (enters_of Tryd.func26 (by kernel_rfl) rfl) rfl rfl rfl (by kernel_rfl) (by kernel_rfl) rfl rfl (fun w1 hC => HBM.out w1 (gl_old FG.out hC)) ?_
          refine chain_move (.slice a21 TL cap21) _ (fun _ _ => Below.refl _ _) rfl rfl (by kernel_rfl) (by kernel_rfl) rfl ?_
          refine chain_call_use (.bool true) 107 _ 25 (fun x => [x, .slice a21 TL cap21]) _ _ (enters_of Tryd.func25 (by kernel_rfl) rfl) rfl rfl rfl (by kernel_rfl) rfl rfl (fun _ => rfl) rfl (fun _ => rfl) (fun x w1 hC hx => by obtain ⟨a_, cap_, rfl, hcx⟩ := hx; exact ints_same a_ a21 cap_ cap21 TL (mem N) w1 HML.out hml6 hcx (Cells.below (w := W.drew) FM.out hC)) ?_
          refine chain_pick (.bool true) _ _ _ true (fun _ _ => Below.refl _ _) rfl rfl (by kernel_rfl) (by kernel_rfl) rfl rfl ?_
          refine chain_move (.bool true) _ (fun _ _ => Below.refl _ _) rfl rfl (by kernel_rfl) (by kernel_rfl) rfl ?_
          refine chain_load (setV N) _ _ _ (fun _ _ => Below.refl _ _) rfl rfl (by kernel_rfl) (by kernel_rfl) rfl (fun w1 hC => load_set (F5.out.drew.below hC F5.out.lt)) ?_
          refine chain_move (.int .i64 n) _ (fun _ _ => Below.refl _ _) rfl rfl (by kernel_rfl) (by kernel_rfl) rfl ?_
          refine chain_call (.bool hb_) 27 [setV N, .int .i64 n] _ _ (enters_of Tryd.func27 (by kernel_rfl) rfl) rfl rfl rfl (by kernel_rfl) (by kernel_rfl) rfl rfl (fun w1 _ => HHa.out w1) ?_
          refine chain_load (setV N) _ _ _ (fun _ _ => Below.refl _ _) rfl rfl (by kernel_rfl) (by kernel_rfl) rfl (fun w1 hC => load_set (F5.out.drew.below hC F5.out.lt)) ?_
          refine chain_move (.int .i64 n) _ (fun _ _ => Below.refl _ _) rfl rfl (by kernel_rfl) (by kernel_rfl) rfl ?_
          refine chain_call (.bool hb_) 28 [setV N, .int .i64 n] _ _ (enters_of Tryd.func28 (by kernel_rfl) rfl) rfl rfl rfl (by kernel_rfl) (by kernel_rfl) rfl rfl (fun w1 _ => HRHa.out w1) ?_
          refine chain_bin (.bool true) _ _ _ _ _ (.bool hb_) (.bool hb_) (fun _ _ => Below.refl _ _) rfl rfl (by kernel_rfl) (by kernel_rfl) rfl rfl (fun w => eql_bool_same _ _ _ w) ?_
          refine chain_pick (.bool true) _ _ _ true (fun _ _ => Below.refl _ _) rfl rfl (by kernel_rfl) (by kernel_rfl) rfl rfl ?_
          refine chain_move (.bool true) _ (fun _ _ => Below.refl _ _) rfl rfl (by kernel_rfl) (by kernel_rfl) rfl ?_
          refine chain_load (setV D) _ _ _ (fun _ _ => Below.refl _ _) rfl rfl (by kernel_rfl) (by kernel_rfl) rfl (fun w1 hC => load_set (F13.out.drew.below hC F13.out.lt)) ?_
          refine chain_load (setV D) _ _ _ (fun _ _ => Below.refl _ _) rfl rfl (by kernel_rfl) (by kernel_rfl) rfl (fun w1 hC => load_set (F15.out.drew.below hC F15.out.lt)) ?_
          refine chain_bin (.bool true) _ _ _ _ _ (setV D) (setV D) (fun _ _ => Below.refl _ _) rfl rfl (by kernel_rfl) (by kernel_rfl) rfl rfl (fun w => eql_set_same _ _ _ w) ?_
          refine chain_pick (.bool true) _ _ _ true (fun _ _ => Below.refl _ _) rfl rfl (by kernel_rfl) (by kernel_rfl) rfl rfl ?_
          refine chain_move (.bool true) _ (fun _ _ => Below.refl _ _) rfl rfl (by kernel_rfl) (by kernel_rfl) rfl ?_
          refine chain_move (.int .i64 s2) _ (fun _ _ => Below.refl _ _) rfl rfl (by kernel_rfl) (by kernel_rfl) rfl ?_
          refine chain_move (.int .i64 s2) _ (fun _ _ => Below.refl _ _) rfl rfl (by kernel_rfl) (by kernel_rfl) rfl ?_
          refine chain_bin (.bool true) _ _ _ _ _ (.int .i64 s2) (.int .i64 s2) (fun _ _ => Below.refl _ _) rfl rfl (by kernel_rfl) (by kernel_rfl) rfl rfl (fun w => eql_int_same _ _ _ _ w) ?_
          refine chain_pick (.bool true) _ _ _ true (fun _ _ => Below.refl _ _) rfl rfl (by kernel_rfl) (by kernel_rfl) rfl rfl ?_
          refine chain_move (.bool true) _ (fun _ _ => Below.refl _ _) rfl rfl (by kernel_rfl) (by kernel_rfl) rfl ?_
          refine chain_load (setV N) _ _ _ (fun _ _ => Below.refl _ _) rfl rfl (by kernel_rfl) (by kernel_rfl) rfl (fun w1 hC => load_set (F5.out.drew.below hC F5.out.lt)) ?_
          refine chain_move (.int .i64 n) _ (fun _ _ => Below.refl _ _) rfl rfl (by kernel_rfl) (by kernel_rfl) rfl ?_
          refine chain_call (setV E) 29 [setV N, .int .i64 n] _ _ (enters_of Tryd.func29 (by kernel_rfl) rfl) rfl rfl rfl (by kernel_rfl) (by kernel_rfl) rfl rfl (fun w1 _ => HWo.out w1) ?_
          refine chain_load (setV N) _ _ _ (fun _ _ => Below.refl _ _) rfl rfl (by kernel_rfl) (by kernel_rfl) rfl (fun w1 hC => load_set (F5.out.drew.below hC F5.out.lt)) ?_
          refine chain_move (.int .i64 n) _ (fun _ _ => Below.refl _ _) rfl rfl (by kernel_rfl) (by kernel_rfl) rfl ?_
          refine chain_call (setV E) 30 [setV N, .int .i64 n] _ _ (enters_of Tryd.func30 (by kernel_rfl) rfl) rfl rfl rfl (by kernel_rfl) (by kernel_rfl) rfl rfl (fun w1 _ => HRWo.out w1) ?_
          refine chain_bin (.bool true) _ _ _ _ _ (setV E) (setV E) (fun _ _ => Below.refl _ _) rfl rfl (by kernel_rfl) (by kernel_rfl) rfl rfl (fun w => eql_set_same _ _ _ w) ?_
          refine chain_pick (.bool true) _ _ _ true (fun _ _ => Below.refl _ _) rfl rfl (by kernel_rfl) (by kernel_rfl) rfl rfl ?_
          refine chain_move (.bool true) _ (fun _ _ => Below.refl _ _) rfl rfl (by kernel_rfl) (by kernel_rfl) rfl ?_
          refine chain_move (.int .i64 X) _ (fun _ _ => Below.refl _ _) rfl rfl (by kernel_rfl) (by kernel_rfl) rfl ?_
          refine chain_move (.int .i64 X) _ (fun _ _ => Below.refl _ _) rfl rfl (by kernel_rfl) (by kernel_rfl) rfl ?_
          refine chain_bin (.bool true) _ _ _ _ _ (.int .i64 X) (.int .i64 X) (fun _ _ => Below.refl _ _) rfl rfl (by kernel_rfl) (by kernel_rfl) rfl rfl (fun w => eql_int_same _ _ _ _ w) ?_
          refine chain_pick (.bool true) _ _ _ true (fun _ _ => Below.refl _ _) rfl rfl (by kernel_rfl) (by kernel_rfl) rfl rfl ?_
          refine chain_move (.bool true) _ (fun _ _ => Below.refl _ _) rfl rfl (by kernel_rfl) (by kernel_rfl) rfl ?_
          refine chain_move (.bool p) _ (fun _ _ => Below.refl _ _) rfl rfl (by kernel_rfl) (by kernel_rfl) rfl ?_
          refine chain_move (.bool p) _ (fun _ _ => Below.refl _ _) rfl rfl (by kernel_rfl) (by kernel_rfl) rfl ?_
          refine chain_bin (.bool true) _ _ _ _ _ (.bool p) (.bool p) (fun _ _ => Below.refl _ _) rfl rfl (by kernel_rfl) (by kernel_rfl) rfl rfl (fun w => eql_bool_same _ _ _ w) ?_
          refine chain_pick (.bool true) _ _ _ true (fun _ _ => Below.refl _ _) rfl rfl (by kernel_rfl) (by kernel_rfl) rfl rfl ?_
          refine chain_move (.bool true) _ (fun _ _ => Below.refl _ _) rfl rfl (by kernel_rfl) (by kernel_rfl) rfl ?_
          refine chain_load (.slice p22 TL cap22) _ _ _ (fun _ _ => Below.refl _ _) rfl rfl (by kernel_rfl) (by kernel_rfl) rfl (fun w1 hC => load_sl ((F22.out.drew.below hC F22.out.lt).cell1.1)) ?_
          refine chain_move (.slice a21 TL cap21) _ (fun _ _ => Below.refl _ _) rfl rfl (by kernel_rfl) (by kernel_rfl) rfl ?_
          refine chain_call (.bool true) 25 [.slice p22 TL cap22, .slice a21 TL cap21] _ _ (enters_of Tryd.func25 (by kernel_rfl) rfl) rfl rfl rfl (by kernel_rfl) (by kernel_rfl) rfl rfl (fun w1 hC => ints_same p22 a21 cap22 cap21 TL T w1 HTL.out (by have := HTL2.out; omega) (Cells.below (w := W.drew) FT.out hC) (Cells.below (w := W.drew) FW.out hC)) ?_
          refine chain_pick (.bool true) _ _ _ true (fun _ _ => Below.refl _ _) rfl rfl (by kernel_rfl) (by kernel_rfl) rfl rfl ?_
          refine chain_assign (.bool true) _ (fun _ _ => Below.refl _ _) rfl rfl (by kernel_rfl) (by kernel_rfl) rfl ?_
          refine chain_end (by rfl) ?_
          intro xs w1 hCw1 hrew1
          simp only [layE, List.foldr_cons, List.foldr_nil, List.set_cons_succ, List.set_cons_zero]
          go_wp2_with fail
          have hC : Below W.drew.heap.size W.drew w1 := hCw1
          have hK1 : w1.heap[D_]? = some (.deferred (some [])) := (hC.block D_ (Array.getElem?_eq_some_iff.1 FK.out).1).trans FK.out
          refine ⟨by simp, .inl ⟨_, _, rfl, run_takeDeferred hK1, ?_⟩⟩
          exact ⟨_, results_tmp rfl _ _ _, rfl, (old_end FB.out hCw1 FB.out.size).trans (belowK_b (w := w) (Nat.le_refl _) w1 D_ _ _ FD.out hK1 rfl rfl)⟩
      case stop =>
        rintro D_ c pre W hD hpre ⟨⟨v, hv, hrow, _⟩, hLF, rfl, hlt⟩ hK
        obtain ⟨_, p22, cap22, rfl, hcs, _⟩ := ownsRow_cells hrow
        obtain ⟨T, hT0⟩ : ∃ T, T = vals pre := ⟨_, rfl⟩
        obtain ⟨TL, hTL0⟩ : ∃ TL, TL = pre.length := ⟨_, rfl⟩
        have hTL : TL = T.length := by rw [hTL0, hT0, vals_length]
        rw [← hTL0] at hv hlt
        rw [← hT0] at hcs
        have hT : T = (mem N).take k := by
          have h1 : T <+: mem N := by rw [hT0]; exact hpre
          have h2 : T.length = k := by rw [← hTL]; omega
          rw [← h2]; exact (List.prefix_iff_eq_take.1 h1)
        clear hpre hrow hT0 hTL0 hlt
        have q0 := L22.out
        have F5 := Lib.hid (hLF.blk F.out.2.2.1 (by omega))
        have F9 := Lib.hid (hLF.blk Kb9.out (by omega))
        have F11 := Lib.hid (hLF.blk Kb11.out (by omega))
        have F13 := Lib.hid (hLF.blk Kb13.out (by omega))
        have F15 := Lib.hid (hLF.blk Kb15.out (by omega))
        have h7 := (hLF.blk F.out.2.2.2.1 (by omega)).cell1
        have FM := Lib.hid (Cells.lf hLF HM.out L21.out)
        have FG := Lib.hid (hLF.gl F.out.1 (by omega))
        have FB := Lib.hid (hLF.below F.out.2.1 (by omega))
        have FK := Lib.hid hK
        have FD : Hid (w.heap.size ≤ D_) := Nat.le_trans F.out.2.1.size hD
        have F22 : Hid (Blk W b22 #[.slice p22 TL cap22] 22) := hv
        have FT := Lib.hid hcs
        have HTL := Lib.hid hTL
        have HTT := Lib.hid hT
        have HTL2 : Hid (TL ≤ 256 ∧ TL = min ml k) := by rw [Hid, hTL, hT, HML.out]; have := hml6; rw [HML.out] at this; simp; omega
        clear q0 hLF hK F Kb9 Kb11 Kb13 Kb15 KA HM K22 K0 k0 kf hv hcs hTL hT
        obtain ⟨k7, f7⟩ := h7
        refine wpIn_wide.2 ?_
        by_cases htm : k < ml
        · have FW : Hid (Cells W a21 (intsL T)) := by rw [Hid, HTT.out]; exact FM.out.take k
          have e1 : TL = k := by have := HTL2.out; omega
          subst e1
          have hmx : max (TL : Int) 0 = (TL : Int) := by omega
          have hkc : TL ≤ cap21 := by omega
          go_upto_region 24 with (fail)
          refine wp_region_old 58 154 (by kernel_rfl) (by kernel_rfl) (by rfl) ?_
          simp only [List.take_succ_cons, List.take_zero, List.drop_succ_cons, List.drop_zero, List.drop_nil]
          refine chain_load (setV A) _ _ _ (fun _ _ => Below.refl _ _) rfl rfl (by kernel_rfl) (by kernel_rfl) rfl (fun w1 hC => load_set (F9.out.drew.below hC F9.out.lt)) ?_
          refine chain_load (setV A) _ _ _ (fun _ _ => Below.refl _ _) rfl rfl (by kernel_rfl) (by kernel_rfl) rfl (fun w1 hC => load_set (F11.out.drew.below hC F11.out.lt)) ?_
          refine chain_bin (.bool true) _ _ _ _ _ (setV A) (setV A) (fun _ _ => Below.refl _ _) rfl rfl (by kernel_rfl) (by kernel_rfl) rfl rfl (fun w => eql_set_same _ _ _ w) ?_
          refine chain_move (.bool true) _ (fun _ _ => Below.refl _ _) rfl rfl (by kernel_rfl) (by kernel_rfl) rfl ?_
          refine chain_move (.int .i64 s1) _ (fun _ _ => Below.refl _ _) rfl rfl (by kernel_rfl) (by kernel_rfl) rfl ?_
          refine chain_move (.int .i64 s1) _ (fun _ _ => Below.refl _ _) rfl rfl (by kernel_rfl) (by kernel_rfl) rfl ?_
          refine chain_bin (.bool true) _ _ _ _ _ (.int .i64 s1) (.int .i64 s1) (fun _ _ => Below.refl _ _) rfl rfl (by kernel_rfl) (by kernel_rfl) rfl rfl (fun w => eql_int_same _ _ _ _ w) ?_
          refine chain_pick (.bool true) _ _ _ true (fun _ _ => Below.refl _ _) rfl rfl (by kernel_rfl) (by kernel_rfl) rfl rfl ?_
          refine chain_move (.bool true) _ (fun _ _ => Below.refl _ _) rfl rfl (by kernel_rfl) (by kernel_rfl) rfl ?_
          refine chain_load (setV N) _ _ _ (fun _ _ => Below.refl _ _) rfl rfl (by kernel_rfl) (by kernel_rfl) rfl (fun w1 hC => load_set (F5.out.drew.below hC F5.out.lt)) ?_
          refine chain_call_re (memW N ml) 26 [setV N] _ _ (memW_lasts N ml) (enters_of Tryd.func26 (by kernel_rfl) rfl) rfl rfl rfl (by kernel_rfl) (by kernel_rfl) rfl rfl (fun w1 hC => HBM.out w1 (gl_old FG.out hC)) ?_
          refine chain_move (.slice a21 ml cap21) _ (fun _ _ => Below.refl _ _) rfl rfl (by kernel_rfl) (by kernel_rfl) rfl ?_
          refine chain_call_use (.bool true) 107 _ 25 (fun x => [x, .slice a21 ml cap21]) _ _ (enters_of Tryd.func25 (by kernel_rfl) rfl) rfl rfl rfl (by kernel_rfl) rfl rfl (fun _ => rfl) rfl (fun _ => rfl) (fun x w1 hC hx => by obtain ⟨a_, cap_, rfl, hcx⟩ := hx; exact ints_same a_ a21 cap_ cap21 ml (mem N) w1 HML.out hml6 hcx (Cells.below (w := W.drew) FM.out hC)) ?_
          refine chain_pick (.bool true) _ _ _ true (fun _ _ => Below.refl _ _) rfl rfl (by kernel_rfl) (by kernel_rfl) rfl rfl ?_
          refine chain_move (.bool true) _ (fun _ _ => Below.refl _ _) rfl rfl (by kernel_rfl) (by kernel_rfl) rfl ?_
          refine chain_load (setV N) _ _ _ (fun _ _ => Below.refl _ _) rfl rfl (by kernel_rfl) (by kernel_rfl) rfl (fun w1 hC => load_set (F5.out.drew.below hC F5.out.lt)) ?_
          refine chain_move (.int .i64 n) _ (fun _ _ => Below.refl _ _) rfl rfl (by kernel_rfl) (by kernel_rfl) rfl ?_
          refine chain_call (.bool hb_) 27 [setV N, .int .i64 n] _ _ (enters_of Tryd.func27 (by kernel_rfl) rfl) rfl rfl rfl (by kernel_rfl) (by kernel_rfl) rfl rfl (fun w1 _ => HHa.out w1) ?_
          refine chain_load (setV N) _ _ _ (fun _ _ => Below.refl _ _) rfl rfl (by kernel_rfl) (by kernel_rfl) rfl (fun w1 hC => load_set (F5.out.drew.below hC F5.out.lt)) ?_
          refine chain_move (.int .i64 n) _ (fun _ _ => Below.refl _ _) rfl rfl (by kernel_rfl) (by kernel_rfl) rfl ?_
          refine chain_call (.bool hb_) 28 [setV N, .int .i64 n] _ _ (enters_of Tryd.func28 (by kernel_rfl) rfl) rfl rfl rfl (by kernel_rfl) (by kernel_rfl) rfl rfl (fun w1 _ => HRHa.out w1) ?_
          refine chain_bin (.bool true) _ _ _ _ _ (.bool hb_) (.bool hb_) (fun _ _ => Below.refl _ _) rfl rfl (by kernel_rfl) (by kernel_rfl) rfl rfl (fun w => eql_bool_same _ _ _ w) ?_
          refine chain_pick (.bool true) _ _ _ true (fun _ _ => Below.refl _ _) rfl rfl (by kernel_rfl) (by kernel_rfl) rfl rfl ?_
          refine chain_move (.bool true) _ (fun _ _ => Below.refl _ _) rfl rfl (by kernel_rfl) (by kernel_rfl) rfl ?_
          refine chain_load (setV D) _ _ _ (fun _ _ => Below.refl _ _) rfl rfl (by kernel_rfl) (by kernel_rfl) rfl (fun w1 hC => load_set (F13.out.drew.below hC F13.out.lt)) ?_
          refine chain_load (setV D) _ _ _ (fun _ _ => Below.refl _ _) rfl rfl (by kernel_rfl) (by kernel_rfl) rfl (fun w1 hC => load_set (F15.out.drew.below hC F15.out.lt)) ?_
          refine chain_bin (.bool true) _ _ _ _ _ (setV D) (setV D) (fun _ _ => Below.refl _ _) rfl rfl (by kernel_rfl) (by kernel_rfl) rfl rfl (fun w => eql_set_same _ _ _ w) ?_
          refine chain_pick (.bool true) _ _ _ true (fun _ _ => Below.refl _ _) rfl rfl (by kernel_rfl) (by kernel_rfl) rfl rfl ?_
          refine chain_move (.bool true) _ (fun _ _ => Below.refl _ _) rfl rfl (by kernel_rfl) (by kernel_rfl) rfl ?_
          refine chain_move (.int .i64 s2) _ (fun _ _ => Below.refl _ _) rfl rfl (by kernel_rfl) (by kernel_rfl) rfl ?_
          refine chain_move (.int .i64 s2) _ (fun _ _ => Below.refl _ _) rfl rfl (by kernel_rfl) (by kernel_rfl) rfl ?_
          refine chain_bin (.bool true) _ _ _ _ _ (.int .i64 s2) (.int .i64 s2) (fun _ _ => Below.refl _ _) rfl rfl (by kernel_rfl) (by kernel_rfl) rfl rfl (fun w => eql_int_same _ _ _ _ w) ?_
          refine chain_pick (.bool true) _ _ _ true (fun _ _ => Below.refl _ _) rfl rfl (by kernel_rfl) (by kernel_rfl) rfl rfl ?_
          refine chain_move (.bool true) _ (fun _ _ => Below.refl _ _) rfl rfl (by kernel_rfl) (by kernel_rfl) rfl ?_
          refine chain_load (setV N) _ _ _ (fun _ _ => Below.refl _ _) rfl rfl (by kernel_rfl) (by kernel_rfl) rfl (fun w1 hC => load_set (F5.out.drew.below hC F5.out.lt)) ?_
          refine chain_move (.int .i64 n) _ (fun _ _ => Below.refl _ _) rfl rfl (by kernel_rfl) (by kernel_rfl) rfl ?_
          refine chain_call (setV E) 29 [setV N, .int .i64 n] _ _ (enters_of Tryd.func29 (by kernel_rfl) rfl) rfl rfl rfl (by kernel_rfl) (by kernel_rfl) rfl rfl (fun w1 _ => HWo.out w1) ?_
          refine chain_load (setV N) _ _ _ (fun _ _ => Below.refl _ _) rfl rfl (by kernel_rfl) (by kernel_rfl) rfl (fun w1 hC => load_set (F5.out.drew.below hC F5.out.lt)) ?_
          refine chain_move (.int .i64 n) _ (fun _ _ => Below.refl _ _) rfl rfl (by kernel_rfl) (by kernel_rfl) rfl ?_
          refine chain_call (setV E) 30 [setV N, .int .i64 n] _ _ (enters_of Tryd.func30 (by kernel_rfl) rfl) rfl rfl rfl (by kernel_rfl) (by kernel_rfl) rfl rfl (fun w1 _ => HRWo.out w1) ?_
          refine chain_bin (.bool true) _ _ _ _ _ (setV E) (setV E) (fun _ _ => Below.refl _ _) rfl rfl (by kernel_rfl) (by kernel_rfl) rfl rfl (fun w => eql_set_same _ _ _ w) ?_
          refine chain_pick (.bool true) _ _ _ true (fun _ _ => Below.refl _ _) rfl rfl (by kernel_rfl) (by kernel_rfl) rfl rfl ?_
          refine chain_move (.bool true) _ (fun _ _ => Below.refl _ _) rfl rfl (by kernel_rfl) (by kernel_rfl) rfl ?_
          refine chain_move (.int .i64 X) _ (fun _ _ => Below.refl _ _) rfl rfl (by kernel_rfl) (by kernel_rfl) rfl ?_
          refine chain_move (.int .i64 X) _ (fun _ _ => Below.refl _ _) rfl rfl (by kernel_rfl) (by kernel_rfl) rfl ?_
          refine chain_bin (.bool true) _ _ _ _ _ (.int .i64 X) (.int .i64 X) (fun _ _ => Below.refl _ _) rfl rfl (by kernel_rfl) (by kernel_rfl) rfl rfl (fun w => eql_int_same _ _ _ _ w) ?_
          refine chain_pick (.bool true) _ _ _ true (fun _ _ => Below.refl _ _) rfl rfl (by kernel_rfl) (by kernel_rfl) rfl rfl ?_
          refine chain_move (.bool true) _ (fun _ _ => Below.refl _ _) rfl rfl (by kernel_rfl) (by kernel_rfl) rfl ?_
          refine chain_move (.bool p) _ (fun _ _ => Below.refl _ _) rfl rfl (by kernel_rfl) (by kernel_rfl) rfl ?_
          refine chain_move (.bool p) _ (fun _ _ => Below.refl _ _) rfl rfl (by kernel_rfl) (by kernel_rfl) rfl ?_
          refine chain_bin (.bool true) _ _ _ _ _ (.bool p) (.bool p) (fun _ _ => Below.refl _ _) rfl rfl (by kernel_rfl) (by kernel_rfl) rfl rfl (fun w => eql_bool_same _ _ _ w) ?_
          refine chain_pick (.bool true) _ _ _ true (fun _ _ => Below.refl _ _) rfl rfl (by kernel_rfl) (by kernel_rfl) rfl rfl ?_
          refine chain_move (.bool true) _ (fun _ _ => Below.refl _ _) rfl rfl (by kernel_rfl) (by kernel_rfl) rfl ?_
          refine chain_load (.slice p22 TL cap22) _ _ _ (fun _ _ => Below.refl _ _) rfl rfl (by kernel_rfl) (by kernel_rfl) rfl (fun w1 hC => load_sl ((F22.out.drew.below hC F22.out.lt).cell1.1)) ?_
          refine chain_move (.slice a21 TL cap21) _ (fun _ _ => Below.refl _ _) rfl rfl (by kernel_rfl) (by kernel_rfl) rfl ?_
          refine chain_call (.bool true) 25 [.slice p22 TL cap22, .slice a21 TL cap21] _ _ (enters_of Tryd.func25 (by kernel_rfl) rfl) rfl rfl rfl (by kernel_rfl) (by kernel_rfl) rfl rfl (fun w1 hC => ints_same p22 a21 cap22 cap21 TL T w1 HTL.out (by have := HTL2.out; omega) (Cells.below (w := W.drew) FT.out hC) (Cells.below (w := W.drew) FW.out hC)) ?_
          refine chain_pick (.bool true) _ _ _ true (fun _ _ => Below.refl _ _) rfl rfl (by kernel_rfl) (by kernel_rfl) rfl rfl ?_
          refine chain_assign (.bool true) _ (fun _ _ => Below.refl _ _) rfl rfl (by kernel_rfl) (by kernel_rfl) rfl ?_
          refine chain_end (by rfl) ?_
          intro xs w1 hCw1 hrew1
          simp only [layE, List.foldr_cons, List.foldr_nil, List.set_cons_succ, List.set_cons_zero]
          go_wp2_with fail
          have hC : Below W.drew.heap.size W.drew w1 := hCw1
          have hK1 : w1.heap[D_]? = some (.deferred (some [])) := (hC.block D_ (Array.getElem?_eq_some_iff.1 FK.out).1).trans FK.out
          refine ⟨by simp, .inl ⟨_, _, rfl, run_takeDeferred hK1, ?_⟩⟩
          exact ⟨_, results_tmp rfl _ _ _, rfl, (old_end FB.out hCw1 FB.out.size).trans (belowK_b (w := w) (Nat.le_refl _) w1 D_ _ _ FD.out hK1 rfl rfl)⟩
        · have FW : Hid (Cells W a21 (intsL T)) := by rw [Hid, HTT.out]; exact FM.out.take k
          have e1 : TL = ml := by have := HTL2.out; omega
          subst e1
          go_upto_region 24 with (fail)
          refine wp_region_old 58 154 (by kernel_rfl) (by kernel_rfl) (by rfl) ?_
          simp only [List.take_succ_cons, List.take_zero, List.drop_succ_cons, List.drop_zero, List.drop_nil]
          refine chain_load (setV A) _ _ _ (fun _ _ => Below.refl _ _) rfl rfl (by kernel_rfl) (by kernel_rfl) rfl (fun w1 hC => load_set (F9.out.drew.below hC F9.out.lt)) ?_
          refine chain_load (setV A) _ _ _ (fun _ _ => Below.refl _ _) rfl rfl (by kernel_rfl) (by kernel_rfl) rfl (fun w1 hC => load_set (F11.out.drew.below hC F11.out.lt)) ?_
          refine chain_bin (.bool true) _ _ _ _ _ (setV A) (setV A) (fun _ _ => Below.refl _ _) rfl rfl (by kernel_rfl) (by kernel_rfl) rfl rfl (fun w => eql_set_same _ _ _ w) ?_
          refine chain_move (.bool true) _ (fun _ _ => Below.refl _ _) rfl rfl (by kernel_rfl) (by kernel_rfl) rfl ?_
          refine chain_move (.int .i64 s1) _ (fun _ _ => Below.refl _ _) rfl rfl (by kernel_rfl) (by kernel_rfl) rfl ?_
          refine chain_move (.int .i64 s1) _ (fun _ _ => Below.refl _ _) rfl rfl (by kernel_rfl) (by kernel_rfl) rfl ?_
          refine chain_bin (.bool true) _ _ _ _ _ (.int .i64 s1) (.int .i64 s1) (fun _ _ => Below.refl _ _) rfl rfl (by kernel_rfl) (by kernel_rfl) rfl rfl (fun w => eql_int_same _ _ _ _ w) ?_
          refine chain_pick (.bool true) _ _ _ true (fun _ _ => Below.refl _ _) rfl rfl (by kernel_rfl) (by kernel_rfl) rfl rfl ?_
          refine chain_move (.bool true) _ (fun _ _ => Below.refl _ _) rfl rfl (by kernel_rfl) (by kernel_rfl) rfl ?_
          refine chain_load (setV N) _ _ _ (fun _ _ => Below.refl _ _) rfl rfl (by kernel_rfl) (by kernel_rfl) rfl (fun w1 hC => load_set (F5.out.drew.below hC F5.out.lt)) ?_
          refine chain_call_re (memW N TL) 26 [setV N] _ _ (memW_lasts N TL) (enters_of Tryd.func26 (by kernel_rfl) rfl) rfl rfl rfl (by kernel_rfl) (by kernel_rfl) rfl rfl (fun w1 hC => HBM.out w1 (gl_old FG.out hC)) ?_
          refine chain_move (.slice a21 TL cap21) _ (fun _ _ => Below.refl _ _) rfl rfl (by kernel_rfl) (by kernel_rfl) rfl ?_
          refine chain_call_use (.bool true) 107 _ 25 (fun x => [x, .slice a21 TL cap21]) _ _ (enters_of Tryd.func25 (by kernel_rfl) rfl) rfl rfl rfl (by kernel_rfl) rfl rfl (fun _ => rfl) rfl (fun _ => rfl) (fun x w1 hC hx => by obtain ⟨a_, cap_, rfl, hcx⟩ := hx; exact ints_same a_ a21 cap_ cap21 TL (mem N) w1 HML.out hml6 hcx (Cells.below (w := W.drew) FM.out hC)) ?_
          refine chain_pick (.bool true) _ _ _ true (fun _ _ => Below.refl _ _) rfl rfl (by kernel_rfl) (by kernel_rfl) rfl rfl ?_
          refine chain_move (.bool true) _ (fun _ _ => Below.refl _ _) rfl rfl (by kernel_rfl) (by kernel_rfl) rfl ?_
          refine chain_load (setV N) _ _ _ (fun _ _ => Below.refl _ _) rfl rfl (by kernel_rfl) (by kernel_rfl) rfl (fun w1 hC => load_set (F5.out.drew.below hC F5.out.lt)) ?_
          refine chain_move (.int .i64 n) _ (fun _ _ => Below.refl _ _) rfl rfl (by kernel_rfl) (by kernel_rfl) rfl ?_
          refine chain_call (.bool hb_) 27 [setV N, .int .i64 n] _ _ (enters_of Tryd.func27 (by kernel_rfl) rfl) rfl rfl rfl (by kernel_rfl) (by kernel_rfl) rfl rfl (fun w1 _ => HHa.out w1) ?_
          refine chain_load (setV N) _ _ _ (fun _ _ => Below.refl _ _) rfl rfl (by kernel_rfl) (by kernel_rfl) rfl (fun w1 hC => load_set (F5.out.drew.below hC F5.out.lt)) ?_
          refine chain_move (.int .i64 n) _ (fun _ _ => Below.refl _ _) rfl rfl (by kernel_rfl) (by kernel_rfl) rfl ?_
          refine chain_call (.bool hb_) 28 [setV N, .int .i64 n] _ _ (enters_of Tryd.func28 (by kernel_rfl) rfl) rfl rfl rfl (by kernel_rfl) (by kernel_rfl) rfl rfl (fun w1 _ => HRHa.out w1) ?_
          refine chain_bin (.bool true) _ _ _ _ _ (.bool hb_) (.bool hb_) (fun _ _ => Below.refl _ _) rfl rfl (by kernel_rfl) (by kernel_rfl) rfl rfl (fun w => eql_bool_same _ _ _ w) ?_
          refine chain_pick (.bool true) _ _ _ true (fun _ _ => Below.refl _ _) rfl rfl (by kernel_rfl) (by kernel_rfl) rfl rfl ?_
          refine chain_move (.bool true) _ (fun _ _ => Below.refl _ _) rfl rfl (by kernel_rfl) (by kernel_rfl) rfl ?_
          refine chain_load (setV D) _ _ _ (fun _ _ => Below.refl _ _) rfl rfl (by kernel_rfl) (by kernel_rfl) rfl (fun w1 hC => load_set (F13.out.drew.below hC F13.out.lt)) ?_
          refine chain_load (setV D) _ _ _ (fun _ _ => Below.refl _ _) rfl rfl (by kernel_rfl) (by kernel_rfl) rfl (fun w1 hC => load_set (F15.out.drew.below hC F15.out.lt)) ?_
          refine chain_bin (.bool true) _ _ _ _ _ (setV D) (setV D) (fun _ _ => Below.refl _ _) rfl rfl (by kernel_rfl) (by kernel_rfl) rfl rfl (fun w => eql_set_same _ _ _ w) ?_
          refine chain_pick (.bool true) _ _ _ true (fun _ _ => Below.refl _ _) rfl rfl (by kernel_rfl) (by kernel_rfl) rfl rfl ?_
          refine chain_move (.bool true) _ (fun _ _ => Below.refl _ _) rfl rfl (by kernel_rfl) (by kernel_rfl) rfl ?_
          refine chain_move (.int .i64 s2) _ (fun _ _ => Below.refl _ _) rfl rfl (by kernel_rfl) (by kernel_rfl) rfl ?_
          refine chain_move (.int .i64 s2) _ (fun _ _ => Below.refl _ _) rfl rfl (by kernel_rfl) (by kernel_rfl) rfl ?_
          refine chain_bin (.bool true) _ _ _ _ _ (.int .i64 s2) (.int .i64 s2) (fun _ _ => Below.refl _ _) rfl rfl (by kernel_rfl) (by kernel_rfl) rfl rfl (fun w => eql_int_same _ _ _ _ w) ?_
          refine chain_pick (.bool true) _ _ _ true (fun _ _ => Below.refl _ _) rfl rfl (by kernel_rfl) (by kernel_rfl) rfl rfl ?_
          refine chain_move (.bool true) _ (fun _ _ => Below.refl _ _) rfl rfl (by kernel_rfl) (by kernel_rfl) rfl ?_
          refine chain_load (setV N) _ _ _ (fun _ _ => Below.refl _ _) rfl rfl (by kernel_rfl) (by kernel_rfl) rfl (fun w1 hC => load_set (F5.out.drew.below hC F5.out.lt)) ?_
          refine chain_move (.int .i64 n) _ (fun _ _ => Below.refl _ _) rfl rfl (by kernel_rfl) (by kernel_rfl) rfl ?_
          refine chain_call (setV E) 29 [setV N, .int .i64 n] _ _ (enters_of Tryd.func29 (by kernel_rfl) rfl) rfl rfl rfl (by kernel_rfl) (by kernel_rfl) rfl rfl (fun w1 _ => HWo.out w1) ?_
          refine chain_load (setV N) _ _ _ (fun _ _ => Below.refl _ _) rfl rfl (by kernel_rfl) (by kernel_rfl) rfl (fun w1 hC => load_set (F5.out.drew.below hC F5.out.lt)) ?_
          refine chain_move (.int .i64 n) _ (fun _ _ => Below.refl _ _) rfl rfl (by kernel_rfl) (by kernel_rfl) rfl ?_
          refine chain_call (setV E) 30 [setV N, .int .i64 n] _ _ (enters_of Tryd.func30 (by kernel_rfl) rfl) rfl rfl rfl (by kernel_rfl) (by kernel_rfl) rfl rfl (fun w1 _ => HRWo.out w1) ?_
          refine chain_bin (.bool true) _ _ _ _ _ (setV E) (setV E) (fun _ _ => Below.refl _ _) rfl rfl (by kernel_rfl) (by kernel_rfl) rfl rfl (fun w => eql_set_same _ _ _ w) ?_
          refine chain_pick (.bool true) _ _ _ true (fun _ _ => Below.refl _ _) rfl rfl (by kernel_rfl) (by kernel_rfl) rfl rfl ?_
          refine chain_move (.bool true) _ (fun _ _ => Below.refl _ _) rfl rfl (by kernel_rfl) (by kernel_rfl) rfl ?_
          refine chain_move (.int .i64 X) _ (fun _ _ => Below.refl _ _) rfl rfl (by kernel_rfl) (by kernel_rfl) rfl ?_
          refine chain_move (.int .i64 X) _ (fun _ _ => Below.refl _ _) rfl rfl (by kernel_rfl) (by kernel_rfl) rfl ?_
          refine chain_bin (.bool true) _ _ _ _ _ (.int .i64 X) (.int .i64 X) (fun _ _ => Below.refl _ _) rfl rfl (by kernel_rfl) (by kernel_rfl) rfl rfl (fun w => eql_int_same _ _ _ _ w) ?_
          refine chain_pick (.bool true) _ _ _ true (fun _ _ => Below.refl _ _) rfl rfl (by kernel_rfl) (by kernel_rfl) rfl rfl ?_
          refine chain_move (.bool true) _ (fun _ _ => Below.refl _ _) rfl rfl (by kernel_rfl) (by kernel_rfl) rfl ?_
          refine chain_move (.bool p) _ (fun _ _ => Below.refl _ _) rfl rfl (by kernel_rfl) (by kernel_rfl) rfl ?_
          refine chain_move (.bool p) _ (fun _ _ => Below.refl _ _) rfl rfl (by kernel_rfl) (by kernel_rfl) rfl ?_
          refine chain_bin (.bool true) _ _ _ _ _ (.bool p) (.bool p) (fun _ _ => Below.refl _ _) rfl rfl (by kernel_rfl) (by kernel_rfl) rfl rfl (fun w => eql_bool_same _ _ _ w) ?_
          refine chain_pick (.bool true) _ _ _ true (fun _ _ => Below.refl _ _) rfl rfl (by kernel_rfl) (by kernel_rfl) rfl rfl ?_
          refine chain_move (.bool true) _ (fun _ _ => Below.refl _ _) rfl rfl (by kernel_rfl) (by kernel_rfl) rfl ?_
          refine chain_load (.slice p22 TL cap22) _ _ _ (fun _ _ => Below.refl _ _) rfl rfl (by kernel_rfl) (by kernel_rfl) rfl (fun w1 hC => load_sl ((F22.out.drew.below hC F22.out.lt).cell1.1)) ?_
          refine chain_move (.slice a21 TL cap21) _ (fun _ _ => Below.refl _ _) rfl rfl (by kernel_rfl) (by kernel_rfl) rfl ?_
          refine chain_call (.bool true) 25 [.slice p22 TL cap22, .slice a21 TL cap21] _ _ (enters_of Tryd.func25 (by kernel_rfl) rfl) rfl rfl rfl (by kernel_rfl) (by kernel_rfl) rfl rfl (fun w1 hC => ints_same p22 a21 cap22 cap21 TL T w1 HTL.out (by have := HTL2.out; omega) (Cells.below (w := W.drew) FT.out hC) (Cells.below (w := W.drew) FW.out hC)) ?_
          refine chain_pick (.bool true) _ _ _ true (fun _ _ => Below.refl _ _) rfl rfl (by kernel_rfl) (by kernel_rfl) rfl rfl ?_
          refine chain_assign (.bool true) _ (fun _ _ => Below.refl _ _) rfl rfl (by kernel_rfl) (by kernel_rfl) rfl ?_
          refine chain_end (by rfl) ?_
          intro xs w1 hCw1 hrew1
          simp only [layE, List.foldr_cons, List.foldr_nil, List.set_cons_succ, List.set_cons_zero]
          go_wp2_with fail
          have hC : Below W.drew.heap.size W.drew w1 := hCw1
          have hK1 : w1.heap[D_]? = some (.deferred (some [])) := (hC.block D_ (Array.getElem?_eq_some_iff.1 FK.out).1).trans FK.out
          refine ⟨by simp, .inl ⟨_, _, rfl, run_takeDeferred hK1, ?_⟩⟩
          exact ⟨_, results_tmp rfl _ _ _, rfl, (old_end FB.out hCw1 FB.out.size).trans (belowK_b (w := w) (Nat.le_refl _) w1 D_ _ _ FD.out hK1 rfl rfl)⟩
    · have K22b : Hid (Blk W9 b22 #[.slice none 0 0] 22) := K22.out
      have hmx : max take 0 = 0 := by omega
      by_cases htm : take < (ml : Int)
      · go_upto_region 24 with (fail)
        refine wp_region_old 58 154 (by kernel_rfl) (by kernel_rfl) (by rfl) ?_
        simp only [List.take_succ_cons, List.take_zero, List.drop_succ_cons, List.drop_zero, List.drop_nil]
        refine chain_load (setV A) _ _ _ (fun _ _ => Below.refl _ _) rfl rfl (by kernel_rfl) (by kernel_rfl) rfl (fun w1 hC => load_set (Kb9.out.drew.below hC Kb9.out.lt)) ?_
        refine chain_load (setV A) _ _ _ (fun _ _ => Below.refl _ _) rfl rfl (by kernel_rfl) (by kernel_rfl) rfl (fun w1 hC => load_set (Kb11.out.drew.below hC Kb11.out.lt)) ?_
        refine chain_bin (.bool true) _ _ _ _ _ (setV A) (setV A) (fun _ _ => Below.refl _ _) rfl rfl (by kernel_rfl) (by kernel_rfl) rfl rfl (fun w => eql_set_same _ _ _ w) ?_
        refine chain_move (.bool true) _ (fun _ _ => Below.refl _ _) rfl rfl (by kernel_rfl) (by kernel_rfl) rfl ?_
        refine chain_move (.int .i64 s1) _ (fun _ _ => Below.refl _ _) rfl rfl (by kernel_rfl) (by kernel_rfl) rfl ?_
        refine chain_move (.int .i64 s1) _ (fun _ _ => Below.refl _ _) rfl rfl (by kernel_rfl) (by kernel_rfl) rfl ?_
        refine chain_bin (.bool true) _ _ _ _ _ (.int .i64 s1) (.int .i64 s1) (fun _ _ => Below.refl _ _) rfl rfl (by kernel_rfl) (by kernel_rfl) rfl rfl (fun w => eql_int_same _ _ _ _ w) ?_
        refine chain_pick (.bool true) _ _ _ true (fun _ _ => Below.refl _ _) rfl rfl (by kernel_rfl) (by kernel_rfl) rfl rfl ?_
        refine chain_move (.bool true) _ (fun _ _ => Below.refl _ _) rfl rfl (by kernel_rfl) (by kernel_rfl) rfl ?_
        refine chain_load (setV N) _ _ _ (fun _ _ => Below.refl _ _) rfl rfl (by kernel_rfl) (by kernel_rfl) rfl (fun w1 hC => load_set (F.out.2.2.1.drew.below hC F.out.2.2.1.lt)) ?_
        refine chain_call_re (memW N ml) 26 [setV N] _ _ (memW_lasts N ml) (enters_of Tryd.func26 (by kernel_rfl) rfl) rfl rfl rfl (by kernel_rfl) (by kernel_rfl) rfl rfl (fun w1 hC => HBM.out w1 (gl_old F.out.1 hC)) ?_
        refine chain_move (.slice a21 ml cap21) _ (fun _ _ => Below.refl _ _) rfl rfl (by kernel_rfl) (by kernel_rfl) rfl ?_
        refine chain_call_use (.bool true) 107 _ 25 (fun x => [x, .slice a21 ml cap21]) _ _ (enters_of Tryd.func25 (by kernel_rfl) rfl) rfl rfl rfl (by kernel_rfl) rfl rfl (fun _ => rfl) rfl (fun _ => rfl) (fun x w1 hC hx => by obtain ⟨a_, cap_, rfl, hcx⟩ := hx; exact ints_same a_ a21 cap_ cap21 ml (mem N) w1 HML.out hml6 hcx (Cells.below (w := W9.drew) HM.out hC)) ?_
        refine chain_pick (.bool true) _ _ _ true (fun _ _ => Below.refl _ _) rfl rfl (by kernel_rfl) (by kernel_rfl) rfl rfl ?_
        refine chain_move (.bool true) _ (fun _ _ => Below.refl _ _) rfl rfl (by kernel_rfl) (by kernel_rfl) rfl ?_
        refine chain_load (setV N) _ _ _ (fun _ _ => Below.refl _ _) rfl rfl (by kernel_rfl) (by kernel_rfl) rfl (fun w1 hC => load_set (F.out.2.2.1.drew.below hC F.out.2.2.1.lt)) ?_
        refine chain_move (.int .i64 n) _ (fun _ _ => Below.refl _ _) rfl rfl (by kernel_rfl) (by kernel_rfl) rfl ?_
        refine chain_call (.bool hb_) 27 [setV N, .int .i64 n] _ _ (enters_of Tryd.func27 (by kernel_rfl) rfl) rfl rfl rfl (by kernel_rfl) (by kernel_rfl) rfl rfl (fun w1 _ => HHa.out w1) ?_
        refine chain_load (setV N) _ _ _ (fun _ _ => Below.refl _ _) rfl rfl (by kernel_rfl) (by kernel_rfl) rfl (fun w1 hC => load_set (F.out.2.2.1.drew.below hC F.out.2.2.1.lt)) ?_
        refine chain_move (.int .i64 n) _ (fun _ _ => Below.refl _ _) rfl rfl (by kernel_rfl) (by kernel_rfl) rfl ?_
        refine chain_call (.bool hb_) 28 [setV N, .int .i64 n] _ _ (enters_of Tryd.func28 (by kernel_rfl) rfl) rfl rfl rfl (by kernel_rfl) (by kernel_rfl) rfl rfl (fun w1 _ => HRHa.out w1) ?_
        refine chain_bin (.bool true) _ _ _ _ _ (.bool hb_) (.bool hb_) (fun _ _ => Below.refl _ _) rfl rfl (by kernel_rfl) (by kernel_rfl) rfl rfl (fun w => eql_bool_same _ _ _ w) ?_
        refine chain_pick (.bool true) _ _ _ true (fun _ _ => Below.refl _ _) rfl rfl (by kernel_rfl) (by kernel_rfl) rfl rfl ?_
        refine chain_move (.bool true) _ (fun _ _ => Below.refl _ _) rfl rfl (by kernel_rfl) (by kernel_rfl) rfl ?_
        refine chain_load (setV D) _ _ _ (fun _ _ => Below.refl _ _) rfl rfl (by kernel_rfl) (by kernel_rfl) rfl (fun w1 hC => load_set (Kb13.out.drew.below hC Kb13.out.lt)) ?_
        refine chain_load (setV D) _ _ _ (fun _ _ => Below.refl _ _) rfl rfl (by kernel_rfl) (by kernel_rfl) rfl (fun w1 hC => load_set (Kb15.out.drew.below hC Kb15.out.lt)) ?_
        refine chain_bin (.bool true) _ _ _ _ _ (setV D) (setV D) (fun _ _ => Below.refl _ _) rfl rfl (by kernel_rfl) (by kernel_rfl) rfl rfl (fun w => eql_set_same _ _ _ w) ?_
        refine chain_pick (.bool true) _ _ _ true (fun _ _ => Below.refl _ _) rfl rfl (by kernel_rfl) (by kernel_rfl) rfl rfl ?_
        refine chain_move (.bool true) _ (fun _ _ => Below.refl _ _) rfl rfl (by kernel_rfl) (by kernel_rfl) rfl ?_
        refine chain_move (.int .i64 s2) _ (fun _ _ => Below.refl _ _) rfl rfl (by kernel_rfl) (by kernel_rfl) rfl ?_
        refine chain_move (.int .i64 s2) _ (fun _ _ => Below.refl _ _) rfl rfl (by kernel_rfl) (by kernel_rfl) rfl ?_
        refine chain_bin (.bool true) _ _ _ _ _ (.int .i64 s2) (.int .i64 s2) (fun _ _ => Below.refl _ _) rfl rfl (by kernel_rfl) (by kernel_rfl) rfl rfl (fun w => eql_int_same _ _ _ _ w) ?_
        refine chain_pick (.bool true) _ _ _ true (fun _ _ => Below.refl _ _) rfl rfl (by kernel_rfl) (by kernel_rfl) rfl rfl ?_
        refine chain_move (.bool true) _ (fun _ _ => Below.refl _ _) rfl rfl (by kernel_rfl) (by kernel_rfl) rfl ?_
        refine chain_load (setV N) _ _ _ (fun _ _ => Below.refl _ _) rfl rfl (by kernel_rfl) (by kernel_rfl) rfl (fun w1 hC => load_set (F.out.2.2.1.drew.below hC F.out.2.2.1.lt)) ?_
        refine chain_move (.int .i64 n) _ (fun _ _ => Below.refl _ _) rfl rfl (by kernel_rfl) (by kernel_rfl) rfl ?_
        refine chain_call (setV E) 29 [setV N, .int .i64 n] _ _ (enters_of Tryd.func29 (by kernel_rfl) rfl) rfl rfl rfl (by kernel_rfl) (by kernel_rfl) rfl rfl (fun w1 _ => HWo.out w1) ?_
        refine chain_load (setV N) _ _ _ (fun _ _ => Below.refl _ _) rfl rfl (by kernel_rfl) (by kernel_rfl) rfl (fun w1 hC => load_set (F.out.2.2.1.drew.below hC F.out.2.2.1.lt)) ?_
        refine chain_move (.int .i64 n) _ (fun _ _ => Below.refl _ _) rfl rfl (by kernel_rfl) (by kernel_rfl) rfl ?_
        refine chain_call (setV E) 30 [setV N, .int .i64 n] _ _ (enters_of Tryd.func30 (by kernel_rfl) rfl) rfl rfl rfl (by kernel_rfl) (by kernel_rfl) rfl rfl (fun w1 _ => HRWo.out w1) ?_
        refine chain_bin (.bool true) _ _ _ _ _ (setV E) (setV E) (fun _ _ => Below.refl _ _) rfl rfl (by kernel_rfl) (by kernel_rfl) rfl rfl (fun w => eql_set_same _ _ _ w) ?_
        refine chain_pick (.bool true) _ _ _ true (fun _ _ => Below.refl _ _) rfl rfl (by kernel_rfl) (by kernel_rfl) rfl rfl ?_
        refine chain_move (.bool true) _ (fun _ _ => Below.refl _ _) rfl rfl (by kernel_rfl) (by kernel_rfl) rfl ?_
        refine chain_move (.int .i64 X) _ (fun _ _ => Below.refl _ _) rfl rfl (by kernel_rfl) (by kernel_rfl) rfl ?_
        refine chain_move (.int .i64 X) _ (fun _ _ => Below.refl _ _) rfl rfl (by kernel_rfl) (by kernel_rfl) rfl ?_
        refine chain_bin (.bool true) _ _ _ _ _ (.int .i64 X) (.int .i64 X) (fun _ _ => Below.refl _ _) rfl rfl (by kernel_rfl) (by kernel_rfl) rfl rfl (fun w => eql_int_same _ _ _ _ w) ?_
        refine chain_pick (.bool true) _ _ _ true (fun _ _ => Below.refl _ _) rfl rfl (by kernel_rfl) (by kernel_rfl) rfl rfl ?_
        refine chain_move (.bool true) _ (fun _ _ => Below.refl _ _) rfl rfl (by kernel_rfl) (by kernel_rfl) rfl ?_
        refine chain_move (.bool p) _ (fun _ _ => Below.refl _ _) rfl rfl (by kernel_rfl) (by kernel_rfl) rfl ?_
        refine chain_move (.bool p) _ (fun _ _ => Below.refl _ _) rfl rfl (by kernel_rfl) (by kernel_rfl) rfl ?_
        refine chain_bin (.bool true) _ _ _ _ _ (.bool p) (.bool p) (fun _ _ => Below.refl _ _) rfl rfl (by kernel_rfl) (by kernel_rfl) rfl rfl (fun w => eql_bool_same _ _ _ w) ?_
        refine chain_pick (.bool true) _ _ _ true (fun _ _ => Below.refl _ _) rfl rfl (by kernel_rfl) (by kernel_rfl) rfl rfl ?_
        refine chain_move (.bool true) _ (fun _ _ => Below.refl _ _) rfl rfl (by kernel_rfl) (by kernel_rfl) rfl ?_
        refine chain_load (.slice none 0 0) _ _ _ (fun _ _ => Below.refl _ _) rfl rfl (by kernel_rfl) (by kernel_rfl) rfl (fun w1 hC => load_sl ((K22b.out.drew.below hC K22b.out.lt).cell1.1)) ?_
        refine chain_move (.slice a21 0 cap21) _ (fun _ _ => Below.refl _ _) rfl rfl (by kernel_rfl) (by kernel_rfl) rfl ?_
        refine chain_call (.bool true) 25 [.slice none 0 0, .slice a21 0 cap21] _ _ (enters_of Tryd.func25 (by kernel_rfl) rfl) rfl rfl rfl (by kernel_rfl) (by kernel_rfl) rfl rfl (fun w1 hC => ints_same none a21 0 cap21 0 [] w1 rfl (by omega) (.inl rfl) (.inl rfl)) ?_
        refine chain_pick (.bool true) _ _ _ true (fun _ _ => Below.refl _ _) rfl rfl (by kernel_rfl) (by kernel_rfl) rfl rfl ?_
        refine chain_assign (.bool true) _ (fun _ _ => Below.refl _ _) rfl rfl (by kernel_rfl) (by kernel_rfl) rfl ?_
        refine chain_end (by rfl) ?_
        intro xs w1 hCw1 hrew1
        simp only [layE, List.foldr_cons, List.foldr_nil, List.set_cons_succ, List.set_cons_zero]
        go_wp2_with fail
        have hC : Below W9.drew.heap.size W9.drew w1 := hCw1
        exact ⟨_, results_tmp rfl _ _ _, rfl, old_end F.out.2.1 hCw1 F.out.2.1.size⟩
      · have e1 : ml = 0 := by omega
        subst e1
        go_upto_region 24 with (fail)
        refine wp_region_old 58 154 (by kernel_rfl) (by kernel_rfl) (by rfl) ?_
        simp only [List.take_succ_cons, List.take_zero, List.drop_succ_cons, List.drop_zero, List.drop_nil]
        refine chain_load (setV A) _ _ _ (fun _ _ => Below.refl _ _) rfl rfl (by kernel_rfl) (by kernel_rfl) rfl (fun w1 hC => load_set (Kb9.out.drew.below hC Kb9.out.lt)) ?_
        refine chain_load (setV A) _ _ _ (fun _ _ => Below.refl _ _) rfl rfl (by kernel_rfl) (by kernel_rfl) rfl (fun w1 hC => load_set (Kb11.out.drew.below hC Kb11.out.lt)) ?_
        refine chain_bin (.bool true) _ _ _ _ _ (setV A) (setV A) (fun _ _ => Below.refl _ _) rfl rfl (by kernel_rfl) (by kernel_rfl) rfl rfl (fun w => eql_set_same _ _ _ w) ?_
        refine chain_move (.bool true) _ (fun _ _ => Below.refl _ _) rfl rfl (by kernel_rfl) (by kernel_rfl) rfl ?_
        refine chain_move (.int .i64 s1) _ (fun _ _ => Below.refl _ _) rfl rfl (by kernel_rfl) (by kernel_rfl) rfl ?_
        refine chain_move (.int .i64 s1) _ (fun _ _ => Below.refl _ _) rfl rfl (by kernel_rfl) (by kernel_rfl) rfl ?_
        refine chain_bin (.bool true) _ _ _ _ _ (.int .i64 s1) (.int .i64 s1) (fun _ _ => Below.refl _ _) rfl rfl (by kernel_rfl) (by kernel_rfl) rfl rfl (fun w => eql_int_same _ _ _ _ w) ?_
        refine chain_pick (.bool true) _ _ _ true (fun _ _ => Below.refl _ _) rfl rfl (by kernel_rfl) (by kernel_rfl) rfl rfl ?_
        refine chain_move (.bool true) _ (fun _ _ => Below.refl _ _) rfl rfl (by kernel_rfl) (by kernel_rfl) rfl ?_
        refine chain_load (setV N) _ _ _ (fun _ _ => Below.refl _ _) rfl rfl (by kernel_rfl) (by kernel_rfl) rfl (fun w1 hC => load_set (F.out.2.2.1.drew.below hC F.out.2.2.1.lt)) ?_
        refine chain_call_re (memW N 0) 26 [setV N] _ _ (memW_lasts N 0) (enters_of Tryd.func26 (by kernel_rfl) rfl) rfl rfl rfl (by kernel_rfl) (by kernel_rfl) rfl rfl (fun w1 hC => HBM.out w1 (gl_old F.out.1 hC)) ?_
        refine chain_move (.slice a21 0 cap21) _ (fun _ _ => Below.refl _ _) rfl rfl (by kernel_rfl) (by kernel_rfl) rfl ?_
        refine chain_call_use (.bool true) 107 _ 25 (fun x => [x, .slice a21 0 cap21]) _ _ (enters_of Tryd.func25 (by kernel_rfl) rfl) rfl rfl rfl (by kernel_rfl) rfl rfl (fun _ => rfl) rfl (fun _ => rfl) (fun x w1 hC hx => by obtain ⟨a_, cap_, rfl, hcx⟩ := hx; exact ints_same a_ a21 cap_ cap21 0 (mem N) w1 HML.out hml6 hcx (Cells.below (w := W9.drew) HM.out hC)) ?_
        refine chain_pick (.bool true) _ _ _ true (fun _ _ => Below.refl _ _) rfl rfl (by kernel_rfl) (by kernel_rfl) rfl rfl ?_
        refine chain_move (.bool true) _ (fun _ _ => Below.refl _ _) rfl rfl (by kernel_rfl) (by kernel_rfl) rfl ?_
        refine chain_load (setV N) _ _ _ (fun _ _ => Below.refl _ _) rfl rfl (by kernel_rfl) (by kernel_rfl) rfl (fun w1 hC => load_set (F.out.2.2.1.drew.below hC F.out.2.2.1.lt)) ?_
        refine chain_move (.int .i64 n) _ (fun _ _ => Below.refl _ _) rfl rfl (by kernel_rfl) (by kernel_rfl) rfl ?_
        refine chain_call (.bool hb_) 27 [setV N, .int .i64 n] _ _ (enters_of Tryd.func27 (by kernel_rfl) rfl) rfl rfl rfl (by kernel_rfl) (by kernel_rfl) rfl rfl (fun w1 _ => HHa.out w1) ?_
        refine chain_load (setV N) _ _ _ (fun _ _ => Below.refl _ _) rfl rfl (by kernel_rfl) (by kernel_rfl) rfl (fun w1 hC => load_set (F.out.2.2.1.drew.below hC F.out.2.2.1.lt)) ?_
        refine chain_move (.int .i64 n) _ (fun _ _ => Below.refl _ _) rfl rfl (by kernel_rfl) (by kernel_rfl) rfl ?_
        refine chain_call (.bool hb_) 28 [setV N, .int .i64 n] _ _ (enters_of Tryd.func28 (by kernel_rfl) rfl) rfl rfl rfl (by kernel_rfl) (by kernel_rfl) rfl rfl (fun w1 _ => HRHa.out w1) ?_
        refine chain_bin (.bool true) _ _ _ _ _ (.bool hb_) (.bool hb_) (fun _ _ => Below.refl _ _) rfl rfl (by kernel_rfl) (by kernel_rfl) rfl rfl (fun w => eql_bool_same _ _ _ w) ?_
        refine chain_pick (.bool true) _ _ _ true (fun _ _ => Below.refl _ _) rfl rfl (by kernel_rfl) (by kernel_rfl) rfl rfl ?_
        refine chain_move (.bool true) _ (fun _ _ => Below.refl _ _) rfl rfl (by kernel_rfl) (by kernel_rfl) rfl ?_
        refine chain_load (setV D) _ _ _ (fun _ _ => Below.refl _ _) rfl rfl (by kernel_rfl) (by kernel_rfl) rfl (fun w1 hC => load_set (Kb13.out.drew.below hC Kb13.out.lt)) ?_
        refine chain_load (setV D) _ _ _ (fun _ _ => Below.refl _ _) rfl rfl (by kernel_rfl) (by kernel_rfl) rfl (fun w1 hC => load_set (Kb15.out.drew.below hC Kb15.out.lt)) ?_
        refine chain_bin (.bool true) _ _ _ _ _ (setV D) (setV D) (fun _ _ => Below.refl _ _) rfl rfl (by kernel_rfl) (by kernel_rfl) rfl rfl (fun w => eql_set_same _ _ _ w) ?_
        refine chain_pick (.bool true) _ _ _ true (fun _ _ => Below.refl _ _) rfl rfl (by kernel_rfl) (by kernel_rfl) rfl rfl ?_
        refine chain_move (.bool true) _ (fun _ _ => Below.refl _ _) rfl rfl (by kernel_rfl) (by kernel_rfl) rfl ?_
        refine chain_move (.int .i64 s2) _ (fun _ _ => Below.refl _ _) rfl rfl (by kernel_rfl) (by kernel_rfl) rfl ?_
        refine chain_move (.int .i64 s2) _ (fun _ _ => Below.refl _ _) rfl rfl (by kernel_rfl) (by kernel_rfl) rfl ?_
        refine chain_bin (.bool true) _ _ _ _ _ (.int .i64 s2) (.int .i64 s2) (fun _ _ => Below.refl _ _) rfl rfl (by kernel_rfl) (by kernel_rfl) rfl rfl (fun w => eql_int_same _ _ _ _ w) ?_
        refine chain_pick (.bool true) _ _ _ true (fun _ _ => Below.refl _ _) rfl rfl (by kernel_rfl) (by kernel_rfl) rfl rfl ?_
        refine chain_move (.bool true) _ (fun _ _ => Below.refl _ _) rfl rfl (by kernel_rfl) (by kernel_rfl) rfl ?_
        refine chain_load (setV N) _ _ _ (fun _ _ => Below.refl _ _) rfl rfl (by kernel_rfl) (by kernel_rfl) rfl (fun w1 hC => load_set (F.out.2.2.1.drew.below hC F.out.2.2.1.lt)) ?_
        refine chain_move (.int .i64 n) _ (fun _ _ => Below.refl _ _) rfl rfl (by kernel_rfl) (by kernel_rfl) rfl ?_
        refine chain_call (setV E) 29 [setV N, .int .i64 n] _ _ (enters_of Tryd.func29 (by kernel_rfl) rfl) rfl rfl rfl (by kernel_rfl) (by kernel_rfl) rfl rfl (fun w1 _ => HWo.out w1) ?_
        refine chain_load (setV N) _ _ _ (fun _ _ => Below.refl _ _) rfl rfl (by kernel_rfl) (by kernel_rfl) rfl (fun w1 hC => load_set (F.out.2.2.1.drew.below hC F.out.2.2.1.lt)) ?_
        refine chain_move (.int .i64 n) _ (fun _ _ => Below.refl _ _) rfl rfl (by kernel_rfl) (by kernel_rfl) rfl ?_
        refine chain_call (setV E) 30 [setV N, .int .i64 n] _ _ (enters_of Tryd.func30 (by kernel_rfl) rfl) rfl rfl rfl (by kernel_rfl) (by kernel_rfl) rfl rfl (fun w1 _ => HRWo.out w1) ?_
        refine chain_bin (.bool true) _ _ _ _ _ (setV E) (setV E) (fun _ _ => Below.refl _ _) rfl rfl (by kernel_rfl) (by kernel_rfl) rfl rfl (fun w => eql_set_same _ _ _ w) ?_
        refine chain_pick (.bool true) _ _ _ true (fun _ _ => Below.refl _ _) rfl rfl (by kernel_rfl) (by kernel_rfl) rfl rfl ?_
        refine chain_move (.bool true) _ (fun _ _ => Below.refl _ _) rfl rfl (by kernel_rfl) (by kernel_rfl) rfl ?_
        refine chain_move (.int .i64 X) _ (fun _ _ => Below.refl _ _) rfl rfl (by kernel_rfl) (by kernel_rfl) rfl ?_
        refine chain_move (.int .i64 X) _ (fun _ _ => Below.refl _ _) rfl rfl (by kernel_rfl) (by kernel_rfl) rfl ?_
        refine chain_bin (.bool true) _ _ _ _ _ (.int .i64 X) (.int .i64 X) (fun _ _ => Below.refl _ _) rfl rfl (by kernel_rfl) (by kernel_rfl) rfl rfl (fun w => eql_int_same _ _ _ _ w) ?_
        refine chain_pick (.bool true) _ _ _ true (fun _ _ => Below.refl _ _) rfl rfl (by kernel_rfl) (by kernel_rfl) rfl rfl ?_
        refine chain_move (.bool true) _ (fun _ _ => Below.refl _ _) rfl rfl (by kernel_rfl) (by kernel_rfl) rfl ?_
        refine chain_move (.bool p) _ (fun _ _ => Below.refl _ _) rfl rfl (by kernel_rfl) (by kernel_rfl) rfl ?_
        refine chain_move (.bool p) _ (fun _ _ => Below.refl _ _) rfl rfl (by kernel_rfl) (by kernel_rfl) rfl ?_
        refine chain_bin (.bool true) _ _ _ _ _ (.bool p) (.bool p) (fun _ _ => Below.refl _ _) rfl rfl (by kernel_rfl) (by kernel_rfl) rfl rfl (fun w => eql_bool_same _ _ _ w) ?_
        refine chain_pick (.bool true) _ _ _ true (fun _ _ => Below.refl _ _) rfl rfl (by kernel_rfl) (by kernel_rfl) rfl rfl ?_
        refine chain_move (.bool true) _ (fun _ _ => Below.refl _ _) rfl rfl (by kernel_rfl) (by kernel_rfl) rfl ?_
        refine chain_load (.slice none 0 0) _ _ _ (fun _ _ => Below.refl _ _) rfl rfl (by kernel_rfl) (by kernel_rfl) rfl (fun w1 hC => load_sl ((K22b.out.drew.below hC K22b.out.lt).cell1.1)) ?_
        refine chain_move (.slice a21 0 cap21) _ (fun _ _ => Below.refl _ _) rfl rfl (by kernel_rfl) (by kernel_rfl) rfl ?_
        refine chain_call (.bool true) 25 [.slice none 0 0, .slice a21 0 cap21] _ _ (enters_of Tryd.func25 (by kernel_rfl) rfl) rfl rfl rfl (by kernel_rfl) (by kernel_rfl) rfl rfl (fun w1 hC => ints_same none a21 0 cap21 0 [] w1 rfl (by omega) (.inl rfl) (.inl rfl)) ?_
        refine chain_pick (.bool true) _ _ _ true (fun _ _ => Below.refl _ _) rfl rfl (by kernel_rfl) (by kernel_rfl) rfl rfl ?_
        refine chain_assign (.bool true) _ (fun _ _ => Below.refl _ _) rfl rfl (by kernel_rfl) (by kernel_rfl) rfl ?_
        refine chain_end (by rfl) ?_
        intro xs w1 hCw1 hrew1
        simp only [layE, List.foldr_cons, List.foldr_nil, List.set_cons_succ, List.set_cons_zero]
        go_wp2_with fail
        have hC : Below W9.drew.heap.size W9.drew w1 := hCw1
        exact ⟨_, results_tmp rfl _ _ _, rfl, old_end F.out.2.1 hCw1 F.out.2.1.size⟩
  · have hz : 300 < zl := by omega
    clear h300
    refine (callsIn_wide (n := 8)).1 (callsIn_of_wp_marks Tryd.func3 rfl trivial ?_ rfl)
    refine wpIn_wide.2 ?_
    simp only [Tryd.ntmps3, List.size_toArray, List.length_cons, List.length_nil, Nat.reduceAdd, Nat.reduceSub, Array.replicate_succ, Array.replicate_zero, List.push_toArray, List.append_toArray, List.nil_append, List.cons_append]
    simp only [setV]
    go_wp2_with (first | (go_at_call 16; refine (HS.out _ (HG.out.below (below_new2 _ _ _))).mono ?_; rintro e w2 ⟨rfl, hb⟩))
    exact ⟨_, results_tmp rfl _ _ _, rfl, (below_new2 _ _ _).trans (hb.mono (by simp; omega))⟩
end Go.Proofs.YtjifajigigflkaaDoor
namespace Go.Proofs.YtjifajigigflkaaDoor
set_option linter.unusedSimpArgs false
set_option linter.unusedVariables false
open Go Go.RowKit Go.ChangeShapes Go.WideShapes Go.ChangeAt

set_option maxRecDepth 100000 in
theorem bitsNumbers_lifted (os : Os) (started : os.Started) (H : Type) (enc : TypeId × Value → H) :
    ReturnsInHanded {} Tryd.checked os 3 .any (fun w args => (Rows.bitsNumbersSpec.pre enc Tryd.prog Tryd.f3 [] false w args ∧ laidMetH Tryd.prog laidS w) ∧ sizedMet enc Tryd.prog Tryd.f3 (OpenSpec.ofChange Rows.bitsNumbersSpec) false w args)
      (Rows.bitsNumbersSpec.post enc Tryd.prog Tryd.f3 false true false false) := by
  refine lifted_of started (by kernel_rfl) Tryd.func3
    (ChangeSpec.witness_shaped (enc := enc) (C := Tryd.checked) (os := os) (X := fun w _ => laidMetH Tryd.prog laidS w) false (World.laidAll Tryd.prog os laidS) #[.slice none 0 0, .agg #[.int .u64 0, .int .u64 0, .int .u64 0, .int .u64 0], .int .i64 0, .int .i64 0] 8 (World.laidAll_os _ _ _)
      (World.shaped_of_ZipB (by kernel_rfl) (by kernel_rfl)) (by kernel_rfl) (by kernel_rfl) (by kernel_rfl) (laid_met os _)) ?_
  intro W base args ds gs before hg hval0 hW _
  have hval : ∀ (j : Nat) t v, Tryd.f3.params[j]? = some t → args[j]? = some v → Value.okWide Tryd.prog W .any base t v := hval0
  have hW' := hW
  obtain ⟨p, q, hA0, hV, rfl, _, _⟩ := hW
  have hA : DataW.TrodAll enc Tryd.prog W 0 (fun _ => true) true Tryd.f3.params.toList args.toList ds p := hA0
  rw [Tryd.params3] at hA hval
  obtain ⟨v0, v1, v2, v3, d0, d1, d2, d3, p0, p1, p2, p3, rfl, rfl, rfl, h0, h1, h2, h3⟩ := trodAll_four hA
  obtain ⟨rfl, rfl⟩ := trodVars_none hV
  obtain ⟨a0, cap0, zs0, rfl, lc0, lm0, wz0, rd0, back0⟩ := open_il (hval 0 _ v0 rfl rfl) h0
  obtain ⟨x1, b1, rfl, rfl, rfl⟩ := open_set (hval 1 _ v1 rfl rfl) h1
  obtain ⟨x2, rfl, rfl, rfl, w2⟩ := open_int Tryd.underlying3 (hval 2 _ v2 rfl rfl) h2
  have b2 : -9223372036854775808 ≤ x2 ∧ x2 ≤ 9223372036854775807 := by simpa [Lit.wf, IntKind.min, IntKind.max, IntKind.signed, IntKind.bits] using w2
  obtain ⟨x3, rfl, rfl, rfl, w3⟩ := open_int Tryd.underlying3 (hval 3 _ v3 rfl rfl) h3
  have b3 : -9223372036854775808 ≤ x3 ∧ x3 ≤ 9223372036854775807 := by simpa [Lit.wf, IntKind.min, IntKind.max, IntKind.signed, IntKind.bits] using w3
  simp only [List.append_nil] at hW'
  refine (bitsNumbers_any sane_any a0 cap0 zs0 x1 x2 x3 W hg (by unfold maxLen at lm0; omega) rd0 b1 b2 b3).mono fun e W' ⟨he, hb⟩ => ?_
  subst he
  exact ⟨_, rfl, _, _, _, [], _, [], hW', trodAll_mk1 (shut_bool Tryd.underlying4 _), trodAll_mk4 (back0 _ _ (fun b h => by simpa using h) hb) (shut_set x1) (shut_int Tryd.underlying3 w2) (shut_int Tryd.underlying3 w3), rfl, hb.frame _, fun h => by cases h⟩
theorem bitsNumbers_holds : Rows.BitsNumbersSaid :=
  OpenClaim.holds_of_wide 3 Tryd.f3 rfl rfl rfl rfl rfl rfl rfl ⟨rfl, rfl, rfl, rfl, rfl⟩ rfl rfl rfl rfl rfl (by kernel_rfl) Tryd.func3 (by kernel_rfl)
    (of_decide_eq_true (by kernel_rfl)) (by unfold Func.isWrapper; first | (rw [if_pos (by decide +kernel)]; kernel_rfl) | (rw [if_neg (by decide +kernel)]; exact ⟨rfl, rfl⟩))
    (fun os started H enc _ => bitsNumbers_lifted os started H enc)
theorem bitsNumbers_card : Rows.BitsNumbersCardSaid :=
  Claim7.holds_tied_plain_at .later [] [.data, .data, .data, .sentinel, .sentinel] true Rows.bitsNumbersCard.stood.harness true bitsNumbers_holds (fun _ h => by cases h) (by kernel_rfl) (fun _ h => by cases h) bitsNumbers_row_tie rfl ⟨rfl, rfl⟩ (by kernel_rfl) rfl
    (fun f fn hf hfn => by
      obtain rfl : f = 3 := Option.some.inj ((show Tryd.prog.funcNamed "bonehouse/bonehouselaw01.BitsNumbers" = some 3 by kernel_rfl).symm.trans hf) |>.symm
      obtain rfl : fn = Tryd.f3 := (Option.some.inj (Tryd.func3.symm.trans hfn)).symm
      exact ⟨by kernel_rfl, fun j t ht => by
        rw [Tryd.params3] at ht
        have hm : t ∈ [22, 25, 3, 3] := by simpa using Array.mem_of_getElem? ht
        have hall : ([22, 25, 3, 3].all fun u => !Tryd.prog.wantsStandIn u) = true := by kernel_rfl
        exact (show Tryd.prog.wantsStandIn t = false by simpa using List.all_eq_true.1 hall t hm)⟩)
    (by kernel_rfl)
#print axioms bitsNumbers_card
end Go.Proofs.YtjifajigigflkaaDoor
