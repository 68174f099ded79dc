/- What the specification's Hit computes is what Hit answers: plain mathematics. -/
import Derived.Test.YtjifajigigflkaaDoorQe
import Derived.Test.YtjifajigigflkaaDoorQf
import Derived.WalkMore
import Derived.Deep.LoopGhost
import Derived.Deep.Cut
namespace Go.Proofs.YtjifajigigflkaaDoor
set_option linter.unusedSimpArgs false
set_option linter.unusedVariables false
open Go Go.RowKit
section
variable {P : Program} {ops : Array Oper} {C : Cl} {L : List Value} {K : Env → Prop} {o : Oper} {rest : List Oper} {E : Env} {d : Nat}
theorem chain_idx (v : Value) (t : TypeId) (x y : Operand) (a b : Value) (hr : ∀ w, C.C w → C.R w w) (hd : o.dst = some d) (ho : o.op = .indexAddr t x y) (hw : wantB ops o E L = true) (he : exB ops o E = true)
    (hx : evE E L x = a) (hy : evE E L y = b) (h : ∀ w, (Instr.indexAt t a b).run P w = .ok v w) (hk : chain P ops C L rest ((d, .ex v) :: E) K) : chain P ops C L (o :: rest) E K :=
  chain_val v hr hd (fun cs b e => by rw [ho] at e; cases e) hw he (fun w hC => by
    have := h w
    simp only [execOp, ho, hx, hy]
    rw [Sem.run_bind, this]; rfl) hk
theorem chain_ext (v : Value) (x : Operand) (i : Nat) (vs : Array Value) (hr : ∀ w, C.C w → C.R w w) (hd : o.dst = some d) (ho : o.op = .extract x i) (hw : wantB ops o E L = true) (he : exB ops o E = true)
    (hx : evE E L x = .tuple vs) (hv : vs[i]? = some v) (hk : chain P ops C L rest ((d, .ex v) :: E) K) : chain P ops C L (o :: rest) E K :=
  chain_val v hr hd (fun cs b e => by rw [ho] at e; cases e) hw he (fun w hC => by
    simp only [execOp, ho, hx]
    simp [go_sem, Instr.extract, hv]) hk
theorem chain_len (v : Value) (c : Call) (x : Operand) (a : Value) (t : TypeId) (hr : ∀ w, C.C w → C.R w w) (hd : o.dst = some d) (ho : o.op = .call c) (hc : c.callee = .builtin .len) (hxs : c.args = #[x]) (ht : c.argTypes = #[t]) (hw : wantB ops o E L = true) (he : exB ops o E = true)
    (hx : evE E L x = a) (h : ∀ (ty : TypeId) (cs : Array Bool) w, (builtin .len #[t] ty cs #[a]).run P w = .ok (.value v) w) (hk : chain P ops C L rest ((d, .ex v) :: E) K) : chain P ops C L (o :: rest) E K :=
  chain_val v hr hd (fun cs b e => by rw [ho] at e; cases e) hw he (fun w hC => by
    simp [execOp, ho, resolve, hc, hxs, ht, invoke, hx, h]) hk
end
theorem run_len_slice (a : Option Addr) (n cap : Nat) (ty : TypeId) (cs : Array Bool) (w : World) : (builtin .len #[22] ty cs #[.slice a n cap]).run Tryd.prog w = .ok (.value (.int .i64 n)) w := by
  simp [go_sem, builtin, Builtin.len_, run_underlying Tryd.underlying22]
theorem sub_small (t : TypeId) (x y : Operand) (a b s : Int) (h : a - b = s) (hs : -9223372036854775808 ≤ s ∧ s < 9223372036854775808) (w : World) :
    (do eqGuard .sub t x y (.int .i64 a) (.int .i64 b); binOp .sub t (.int .i64 a) (.int .i64 b) : Sem Value).run Tryd.prog w = .ok (.int .i64 s) w := by
  subst h
  have e := IntWalk.i64_in (a - b) (by omega)
  simp [go_sem]
  exact e
theorem leq_int (t : TypeId) (x y : Operand) (a b : Int) (p : Bool) (h : decide (a ≤ b) = p) (w : World) :
    (do eqGuard .leq t x y (.int .i64 a) (.int .i64 b); binOp .leq t (.int .i64 a) (.int .i64 b) : Sem Value).run Tryd.prog w = .ok (.bool p) w := by
  subst h; simp [go_sem]
theorem gtr_int (t : TypeId) (x y : Operand) (a b : Int) (p : Bool) (h : decide (b < a) = p) (w : World) :
    (do eqGuard .gtr t x y (.int .i64 a) (.int .i64 b); binOp .gtr t (.int .i64 a) (.int .i64 b) : Sem Value).run Tryd.prog w = .ok (.bool p) w := by
  subst h; simp [go_sem]
theorem idx_int (b o n cap k : Nat) (h : k < n) (w : World) : (Instr.indexAt 22 (.slice (some ⟨b, o, none⟩) n cap) (.int .i64 k)).run Tryd.prog w = .ok (.pointer (some ⟨b, o + k, none⟩)) w := by
  simp [go_sem, Instr.indexAt, h]
theorem ints_new1 {w0 w : World} {ρ : Operand → Value} {o : Oper} {x : Operand} {a : Int} (ho : o.op = .buildSlice 22 1 #[(0, x)]) (hx : ρ x = .int .i64 a) (hC : (clOld w0).C w) :
    ∃ u w', (execOp ρ o).run Tryd.prog w = .ok (.value u) w' ∧ (clOld w0).R w w' ∧ ints_w [a] u w' :=
  ints_new (xs := [a]) (by simp [execOp, ho, hx, go_sem, Instr.buildSlice]) hC
end Go.Proofs.YtjifajigigflkaaDoor
namespace Go.Proofs.YtjifajigigflkaaDoor
set_option linter.unusedSimpArgs false
set_option linter.unusedVariables false
open Go Go.RowKit

/-- It is not wanted, as far as is known. -/
def skipB (ops : Array Oper) (o : Oper) (E : Env) : Bool :=
  match o.guard with
  | none => false
  | some (g, want) => match (ops[g]?).bind (·.dst) with
    | some d => (match lk E d with
      | some (.ex (.bool b)) => b != want
      | some (.ex (.tuple _)) => false
      | _ => false)
    | none => false
theorem unwanted_of {ops : Array Oper} {o : Oper} {E : Env} {L : List Value} {a : Act} {w : World} (hw : skipB ops o E = true) (hk : ∀ d ∈ o.looksAt ops, known E L d (a.tmps.getD d undef) w) : Region.wanted o (yielded ops a.tmps) ≠ true := by
  unfold skipB at hw
  unfold Region.wanted
  cases hg : o.guard with
  | none => rw [hg] at hw; cases hw
  | some gw =>
    obtain ⟨g, want⟩ := gw
    rw [hg] at hw
    simp only at hw
    split at hw
    · rename_i d hd
      have hk1 := hk d (List.mem_append_right _ (by rw [hg]; simp [hd]))
      unfold known at hk1
      split at hw
      · rename_i b hb
        rw [hb] at hk1
        have := yielded_of (ops := ops) hd hk1
        simp only [this]
        revert hw
        cases b <;> cases want <;> simp
      · cases hw
      · cases hw
    · cases hw
theorem chain_skip {P : Program} {ops : Array Oper} {C : Cl} {L : List Value} {K : Env → Prop} {o : Oper} {rest : List Oper} {E : Env} {d : Nat} (hd : o.dst = some d) (hw : skipB ops o E = true)
    (hk : chain P ops C L rest ((d, .ex undef) :: E) K) : chain P ops C L (o :: rest) E K :=
  ⟨d, .ex undef, hd, trivial, fun a w hc hk => by
    unfold stepAt
    rw [if_neg (unwanted_of hw hk)]
    rfl, hk⟩
end Go.Proofs.YtjifajigigflkaaDoor
namespace Go.Proofs.YtjifajigigflkaaDoor
set_option linter.unusedSimpArgs false
set_option linter.unusedVariables false
open Go Go.RowKit

def skipU (ops : Array Oper) (o : Oper) (E : Env) : Bool :=
  match o.guard with
  | none => false
  | some (g, _) => match (ops[g]?).bind (·.dst) with
    | some d => (match lk E d with
      | some (.ex (.tuple _)) => true
      | _ => false)
    | none => false
theorem yielded_no {ops : Array Oper} {tmps : Array Value} {g d : Nat} {a : Array Value} (hg : (ops[g]?).bind (·.dst) = some d) (h : tmps.getD d undef = .tuple a) : yielded ops tmps g = none := by
  unfold yielded
  rw [hg]
  rw [Array.getD_eq_getD_getElem?] at h
  simp only [Option.bind_some]
  cases hx : tmps[d]? with
  | none => rfl
  | some v => rw [hx] at h; obtain rfl : v = .tuple a := h; rfl
theorem unwanted_ofU {ops : Array Oper} {o : Oper} {E : Env} {L : List Value} {a : Act} {w : World} (hw : skipU ops o E = true) (hk : ∀ d ∈ o.looksAt ops, known E L d (a.tmps.getD d undef) w) : Region.wanted o (yielded ops a.tmps) ≠ true := by
  unfold skipU at hw
  unfold Region.wanted
  cases hg : o.guard with
  | none => rw [hg] at hw; cases hw
  | some gw =>
    obtain ⟨g, want⟩ := gw
    rw [hg] at hw
    simp only at hw
    split at hw
    · rename_i d hd
      have hk1 := hk d (List.mem_append_right _ (by rw [hg]; simp [hd]))
      unfold known at hk1
      split at hw
      · rename_i b hb
        rw [hb] at hk1
        have := yielded_no (ops := ops) hd hk1
        simp only [this]
        simp
      · cases hw
    · cases hw
theorem chain_skipU {P : Program} {ops : Array Oper} {C : Cl} {L : List Value} {K : Env → Prop} {o : Oper} {rest : List Oper} {E : Env} {d : Nat} (hd : o.dst = some d) (hw : skipU ops o E = true)
    (hk : chain P ops C L rest ((d, .ex undef) :: E) K) : chain P ops C L (o :: rest) E K :=
  ⟨d, .ex undef, hd, trivial, fun a w hc hk => by
    unfold stepAt
    rw [if_neg (unwanted_ofU hw hk)]
    rfl, hk⟩
end Go.Proofs.YtjifajigigflkaaDoor
namespace Go.Proofs.YtjifajigigflkaaDoor
set_option linter.unusedSimpArgs false
set_option linter.unusedVariables false
open Go Go.RowKit
section
variable {P : Program} {ops : Array Oper} {C : Cl} {L : List Value} {K : Env → Prop} {o : Oper} {rest : List Oper} {E : Env} {d : Nat}
theorem ev_top (k : Nat) (x : Value) (E : Env) (L : List Value) : evE ((k, .ex x) :: E) L (.tmp k) = x := by
  simp [evE, lk_cons]
theorem chain_move_re (k : Nat) (q : Word) (hlq : lasts C q) (hr : ∀ w, C.C w → C.R w w) (hd : o.dst = some d) (ho : o.op = .move (.tmp k)) (hw : wantB ops o E L = true)
    (hq : lk E k = some (.re q)) (hl : (o.looksAt ops).contains k = true) (he : ∀ x, exB ops o ((k, .ex x) :: E) = true) (hk : chain P ops C L rest ((d, .re q) :: E) K) : chain P ops C L (o :: rest) E K :=
  ⟨d, .re q, hd, hlq, obl_re k q (fun cs b e => by rw [ho] at e; cases e) hw hq hl he fun x w hC hx => by
    have : (execOp (evE ((k, .ex x) :: E) L) o).run P w = .ok (.value x) w := by simp [execOp, ho, ev_top]
    rw [this]; exact ⟨hr w hC, hx⟩, hk⟩
theorem chain_assign_re (k : Nat) (q : Word) (hlq : lasts C q) (hr : ∀ w, C.C w → C.R w w) (hd : o.dst = some d) (ho : o.op = .assign (.tmp k)) (hw : wantB ops o E L = true)
    (hq : lk E k = some (.re q)) (hl : (o.looksAt ops).contains k = true) (he : ∀ x, exB ops o ((k, .ex x) :: E) = true) (hk : chain P ops C L rest ((d, .re q) :: E) K) : chain P ops C L (o :: rest) E K :=
  ⟨d, .re q, hd, hlq, obl_re k q (fun cs b e => by rw [ho] at e; cases e) hw hq hl he fun x w hC hx => by
    have : (execOp (evE ((k, .ex x) :: E) L) o).run P w = .ok (.value x) w := by simp [execOp, ho, ev_top]
    rw [this]; exact ⟨hr w hC, hx⟩, hk⟩
theorem chain_ext_re (q2 : Word) (k i : Nat) (q : Word) (hlq : lasts C q2) (hr : ∀ w, C.C w → C.R w w) (hd : o.dst = some d) (ho : o.op = .extract (.tmp k) i) (hw : wantB ops o E L = true)
    (hq : lk E k = some (.re q)) (hl : (o.looksAt ops).contains k = true) (he : ∀ x, exB ops o ((k, .ex x) :: E) = true) (h : ∀ x w, q x w → ∃ vs u, x = .tuple vs ∧ vs[i]? = some u ∧ q2 u w) (hk : chain P ops C L rest ((d, .re q2) :: E) K) : chain P ops C L (o :: rest) E K :=
  ⟨d, .re q2, hd, hlq, obl_re k q (fun cs b e => by rw [ho] at e; cases e) hw hq hl he fun x w hC hx => by
    obtain ⟨vs, u, rfl, h1, h2⟩ := h x w hx
    have : (execOp (evE ((k, .ex (.tuple vs)) :: E) L) o).run P w = .ok (.value u) w := by
      simp only [execOp, ho, ev_top]
      simp [go_sem, Instr.extract, h1]
    rw [this]; exact ⟨hr w hC, h2⟩, hk⟩
theorem chain_ext_ex (v : Value) (k i : Nat) (q : Word) (hr : ∀ w, C.C w → C.R w w) (hd : o.dst = some d) (ho : o.op = .extract (.tmp k) i) (hw : wantB ops o E L = true)
    (hq : lk E k = some (.re q)) (hl : (o.looksAt ops).contains k = true) (he : ∀ x, exB ops o ((k, .ex x) :: E) = true) (h : ∀ x w, q x w → ∃ vs, x = .tuple vs ∧ vs[i]? = some v) (hk : chain P ops C L rest ((d, .ex v) :: E) K) : chain P ops C L (o :: rest) E K :=
  ⟨d, .ex v, hd, trivial, obl_re k q (fun cs b e => by rw [ho] at e; cases e) hw hq hl he fun x w hC hx => by
    obtain ⟨vs, rfl, h1⟩ := h x w hx
    have : (execOp (evE ((k, .ex (.tuple vs)) :: E) L) o).run P w = .ok (.value v) w := by
      simp only [execOp, ho, ev_top]
      simp [go_sem, Instr.extract, h1]
    rw [this]; exact ⟨hr w hC, rfl⟩, hk⟩
end
/-- A slice that owns the numbers q; the same, and true. -/
def rowW (B : Nat) (q : List Nat) : Word := fun v w => w.ownsRow B 3 1 v q.length (intsL q)
def rowTrueW (B : Nat) (q : List Nat) : Word := fun v w => ∃ u, v = .tuple #[u, .bool true] ∧ w.ownsRow B 3 1 u q.length (intsL q)
theorem rowW_lasts {w0 : World} (B : Nat) (q : List Nat) : lasts (clOld w0) (rowW B q) := fun v w w' _ hR h => ownsRow_below h hR
theorem rowTrueW_lasts {w0 : World} (B : Nat) (q : List Nat) : lasts (clOld w0) (rowTrueW B q) := fun v w w' _ hR ⟨u, h1, h2⟩ => ⟨u, h1, ownsRow_below h2 hR⟩
end Go.Proofs.YtjifajigigflkaaDoor
namespace Go.Proofs.YtjifajigigflkaaDoor
set_option linter.unusedSimpArgs false
set_option linter.unusedVariables false
open Go Go.RowKit

/-- The first j numbers of row n. -/
def rwL (n : Nat) : Nat → List Nat
  | 0 => []
  | j + 1 => rwL n j ++ [ch n j]
theorem rwL_length (n : Nat) : ∀ j, (rwL n j).length = j
  | 0 => rfl
  | j + 1 => by simp [rwL, rwL_length n j]
theorem rwL_get (n : Nat) : ∀ j i, i < j → (rwL n j)[i]? = some (ch n i)
  | 0, i, h => by omega
  | j + 1, i, h => by
    simp only [rwL]
    by_cases e : i < j
    · rw [List.getElem?_append_left (by rw [rwL_length]; exact e)]; exact rwL_get n j i e
    · have : i = j := by omega
      subst this
      rw [List.getElem?_append_right (by rw [rwL_length]; exact Nat.le_refl _), rwL_length]; simp
theorem ch_diag {n : Nat} (hn : n ≤ 62) : ch n n = 1 := by
  have : (List.range 63).all (fun n => ch n n == 1) = true := by decide +kernel
  have h := List.all_eq_true.1 this n (List.mem_range.2 (by omega))
  simpa using h
theorem owns_new {w : World} {base : Nat} (v : Value) (hb : base ≤ w.heap.size) : (w.alloc (.cells #[v] 3)).ownsRow base 3 1 (.slice (some ⟨w.heap.size, 0, none⟩) 1 1) 1 [v] :=
  ⟨rfl, .inr ⟨w.heap.size, 1, #[v], rfl, hb, Blk.new _ _ _, Nat.le_refl _, by decide, rfl, rfl⟩⟩
theorem add_ints (t : TypeId) (x y : Operand) (a b s : Int) (h : a + b = s) (hs : -9223372036854775808 ≤ s ∧ s < 9223372036854775808) (w : World) :
    (do eqGuard .add t x y (.int .i64 a) (.int .i64 b); binOp .add t (.int .i64 a) (.int .i64 b) : Sem Value).run Tryd.prog w = .ok (.int .i64 s) w := by
  subst h
  have e := IntWalk.i64_in (a + b) (by omega)
  simp [go_sem]
  exact e
theorem load_int_q {w : World} {p : Addr} {x : Int} (h : w.cell? p = some (.int .i64 x)) : (Instr.loadAt 3 (.pointer (some p))).run Tryd.prog w = .ok (.int .i64 x) w := by
  simp [go_sem, h]
theorem row_at {w : World} {base g n cap i k : Nat} (h : w.ownsRow base 3 1 (.slice (some ⟨g, 0, none⟩) n cap) n (intsL (rwL i n))) (hk : k < n) : w.cell? ⟨g, 0 + k, none⟩ = some (.int .i64 (ch i k : Nat)) := by
  rw [Nat.zero_add, World.ownsRow.cellAt h k (by omega)]
  unfold intsL
  rw [List.getElem?_map, rwL_get i n k hk]; rfl
/-- What the outer loop knows: the row, owned. -/
def ChS (base i : Nat) (t : Value) (w wr : World) : Prop := wr.ownsRow base 3 1 t (i + 1) (intsL (rwL i (i + 1))) ∧ Below base w wr
/-- What the inner loop knows: the row, and the next one in the making. -/
def ChI (w : World) (B g i cap : Nat) (t7 : Value) (j : Nat) (wr : World) : Prop :=
  wr.ownsRow w.heap.size 3 1 (.slice (some ⟨g, 0, none⟩) (i + 1) cap) (i + 1) (intsL (rwL i (i + 1))) ∧ wr.ownsRow B 3 1 t7 j (intsL (rwL (i + 1) j)) ∧ Below w.heap.size w wr ∧ g < B ∧ w.heap.size ≤ B ∧ B ≤ wr.heap.size
theorem ChI.below {w : World} {B g i cap : Nat} {t7 : Value} {j : Nat} {wr w' : World} (h : ChI w B g i cap t7 j wr) (hb : Below wr.heap.size wr w') : ChI w B g i cap t7 j w' :=
  ⟨ownsRow_below h.1 hb, ownsRow_below h.2.1 hb, h.2.2.1.trans (hb.mono h.2.2.1.size), h.2.2.2.1, h.2.2.2.2.1, Nat.le_trans h.2.2.2.2.2 hb.size⟩
theorem rchoose_out (n : Nat) (k : Int) (w : World) (h : k < 0 ∨ (n : Int) < k) :
    Calls Tryd.prog 73 #[.int .i64 n, .int .i64 k] w fun e w' => e = .returned (.int .i64 0) ∧ Below w.heap.size w w' := by
  rcases h with h | h
  · go_enter Tryd.func73, Tryd.ntmps73
    go_wp2
    go_ret
    exact ⟨rfl, Below.refl _ _⟩
  · have h0 : decide (k < 0) = false := decide_eq_false (by omega)
    go_enter Tryd.func73, Tryd.ntmps73
    go_wp2
    go_ret
    exact ⟨rfl, Below.refl _ _⟩
set_option maxRecDepth 100000 in
set_option maxHeartbeats 2000000 in
theorem rchoose_in (n k : Nat) (w : World) (hn : n ≤ 62) (h : k ≤ n) :
    Calls Tryd.prog 73 #[.int .i64 n, .int .i64 k] w fun e w' => e = .returned (.int .i64 (ch n k)) ∧ Below w.heap.size w w' := by
  have h0 : decide ((k : Int) < 0) = false := decide_eq_false (by omega)
  have h1 : decide (n < k) = false := decide_eq_false (by omega)
  have HN : Hid (n ≤ 62 ∧ k ≤ n) := ⟨hn, h⟩
  obtain ⟨i0, hi0, hz0, hz1, hz2⟩ := info_parts infoInt
  go_enter Tryd.func73, Tryd.ntmps73
  go_wp2_with fail
  go_loopw [5, 6] (fun t5 t6 wr => ∃ i : Nat, i ≤ n ∧ t6 = .int .i64 i ∧ ChS w.heap.size i t5 w wr) (fun _ t6 _ => n - (intOf t6).toNat)
  case atStart => exact ⟨0, by omega, rfl, owns_new _ (Nat.le_refl _), below_new1 _ _⟩
  case round =>
    obtain ⟨i, hi, rfl, hO, hW⟩ := hrel
    obtain ⟨g, cap, rfl⟩ := ownsRow_succ hO
    have HO := Lib.hid hO
    have HW := Lib.hid hW
    have hgl : g < wr.heap.size := (World.ownsRow.lt hO g rfl).2
    clear hO hW
    by_cases hlt : i < n
    · have t1 : decide (i < n) = true := decide_eq_true hlt
      have hpas : Hid (∀ k, ch (i + 1) (k + 1) = ch i k + ch i (k + 1)) := fun k => ch_pascal (by omega)
      have hdia : Hid (ch (i + 1) (i + 1) = 1) := ch_diag (by omega)
      have hfit : Hid (∀ k, ch (i + 1) k < 9223372036854775808) := fun k => ch_lt (by omega)
      have hi62 : i < 62 := by have := HN.out; omega
      obtain ⟨B0, hB0⟩ : ∃ B, B = wr.heap.size := ⟨_, rfl⟩
      have HB0 := Lib.hid hB0
      clear hB0
      go_wp2_with fail
      go_loopw [7, 8] (fun t7 t8 wx => ∃ jj : Nat, jj ≤ i ∧ t8 = .int .i64 ((jj + 1 : Nat) : Int) ∧ ChI w B0 g i cap t7 (jj + 1) wx) (fun _ t8 _ => (i + 1) - (intOf t8).toNat)
      case atStart => exact ⟨0, by omega, rfl, ownsRow_below HO.out (below_new1 _ _), owns_new _ (by rw [HB0.out]; exact Nat.le_refl _), HW.out.alloc HW.out.size _, by rw [HB0.out]; exact hgl, by rw [HB0.out]; exact HW.out.size, by rw [HB0.out]; simp⟩
      case round =>
        obtain ⟨jj, hj, rfl, hX⟩ := hrel
        obtain ⟨g7, cap7, rfl⟩ := ownsRow_succ hX.2.1
        have G := Lib.hid hX
        clear hX
        by_cases hjlt : jj < i
        · have t3 : decide (jj + 1 < i + 1) = true := decide_eq_true (by omega)
          obtain ⟨A, hA⟩ : ∃ A, A = ch i jj := ⟨_, rfl⟩
          obtain ⟨B, hB⟩ : ∃ B, B = ch i (jj + 1) := ⟨_, rfl⟩
          obtain ⟨S, hS⟩ : ∃ S, S = A + B := ⟨_, rfl⟩
          have HSL : Hid (S < 9223372036854775808 ∧ S = A + B) := ⟨by rw [hS, hA, hB, ← hpas.out]; exact hfit.out _, hS⟩
          have HSC : Hid (rwL (i + 1) (jj + 1 + 1) = rwL (i + 1) (jj + 1) ++ [S]) := by
            rw [Hid, rwL, hpas.out, hS, hA, hB]
          have HCA : Hid (∀ W, ChI w B0 g i cap (.slice (some ⟨g7, 0, none⟩) (jj + 1) cap7) (jj + 1) W → W.cell? ⟨g, 0 + jj, none⟩ = some (.int .i64 A)) := fun W h => by rw [hA]; exact row_at h.1 (by omega)
          have HCB : Hid (∀ W, ChI w B0 g i cap (.slice (some ⟨g7, 0, none⟩) (jj + 1) cap7) (jj + 1) W → W.cell? ⟨g, 0 + (jj + 1), none⟩ = some (.int .i64 B)) := fun W h => by rw [hB]; exact row_at h.1 (by omega)
          have QJ : Hid (jj < i ∧ i < 62) := ⟨hjlt, hi62⟩
          clear hA hB hS hpas hdia hfit
          go_upto_region 11 with (fail)
          refine wp_region_old 12 49 (by kernel_rfl) (by kernel_rfl) (by rfl) ?_
          simp only [List.take_succ_cons, List.take_zero, List.drop_succ_cons, List.drop_zero, List.drop_nil]
          refine chain_move (.slice (some ⟨g7, 0, none⟩) (jj + 1) cap7) _ (fun _ _ => Below.refl _ _) rfl rfl (by kernel_rfl) (by kernel_rfl) rfl ?_
          refine chain_move (.slice (some ⟨g, 0, none⟩) (i + 1) cap) _ (fun _ _ => Below.refl _ _) rfl rfl (by kernel_rfl) (by kernel_rfl) rfl ?_
          refine chain_move (.int .i64 ((jj + 1 : Nat) : Int)) _ (fun _ _ => Below.refl _ _) rfl rfl (by kernel_rfl) (by kernel_rfl) rfl ?_
          refine chain_bin (.int .i64 jj) _ _ _ _ _ (.int .i64 ((jj + 1 : Nat) : Int)) (.int .i64 1) (fun _ _ => Below.refl _ _) rfl rfl (by kernel_rfl) (by kernel_rfl) rfl rfl (fun w1 => sub_small _ _ _ _ _ _ (by omega) (by have := QJ.out; omega) w1) ?_
          refine chain_idx (.pointer (some ⟨g, 0 + jj, none⟩)) _ _ _ (.slice (some ⟨g, 0, none⟩) (i + 1) cap) (.int .i64 jj) (fun _ _ => Below.refl _ _) rfl rfl (by kernel_rfl) (by kernel_rfl) rfl rfl (fun w1 => idx_int _ _ _ _ _ (by have := QJ.out; omega) w1) ?_
          refine chain_load (.int .i64 A) _ _ _ (fun _ _ => Below.refl _ _) rfl rfl (by kernel_rfl) (by kernel_rfl) rfl (fun w1 hC => load_int_q (HCA.out w1 (G.out.below ((Below.refl _ wr).drew.trans hC)))) ?_
          refine chain_move (.slice (some ⟨g, 0, none⟩) (i + 1) cap) _ (fun _ _ => Below.refl _ _) rfl rfl (by kernel_rfl) (by kernel_rfl) rfl ?_
          refine chain_move (.int .i64 ((jj + 1 : Nat) : Int)) _ (fun _ _ => Below.refl _ _) rfl rfl (by kernel_rfl) (by kernel_rfl) rfl ?_
          refine chain_idx (.pointer (some ⟨g, 0 + (jj + 1), none⟩)) _ _ _ (.slice (some ⟨g, 0, none⟩) (i + 1) cap) (.int .i64 ((jj + 1 : Nat) : Int)) (fun _ _ => Below.refl _ _) rfl rfl (by kernel_rfl) (by kernel_rfl) rfl rfl (fun w1 => idx_int _ _ _ _ _ (by have := QJ.out; omega) w1) ?_
          refine chain_load (.int .i64 B) _ _ _ (fun _ _ => Below.refl _ _) rfl rfl (by kernel_rfl) (by kernel_rfl) rfl (fun w1 hC => load_int_q (HCB.out w1 (G.out.below ((Below.refl _ wr).drew.trans hC)))) ?_
          refine chain_bin (.int .i64 S) _ _ _ _ _ (.int .i64 A) (.int .i64 B) (fun _ _ => Below.refl _ _) rfl rfl (by kernel_rfl) (by kernel_rfl) rfl rfl (fun w1 => add_ints _ _ _ _ _ _ (by have := HSL.out; omega) (by have := HSL.out; omega) w1) ?_
          refine chain_new (ints_w [S]) (ints_lasts _) rfl (by intro cs b h; cases h) (by kernel_rfl) (by kernel_rfl) (fun w hC => ints_new1 rfl rfl hC) ?_
          refine chain_end (by rfl) ?_
          intro xs wy hCwy hrewy
          simp only [layE, List.foldr_cons, List.foldr_nil, List.set_cons_succ, List.set_cons_zero]
          have GY := Lib.hid (G.out.below ((Below.refl _ wr).drew.trans hCwy))
          obtain ⟨bs, hbs, hBs⟩ := hrewy 40 _ rfl
          clear G hCwy hrewy HCA HCB
          simp only [hbs]
          have hcs : ∀ (q : Nat) (u : Value), [Value.int .i64 (S : Int)][q]? = some u → wy.cell? ((⟨bs, 0, none⟩ : Addr).add q) = some u := fun q u hq => by
            match q, hq with
            | 0, hq => cases hq; exact (hBs.cell 0)
          go_wp2_with (at_builtin; go_loud (refine wpList_append_own _ rfl _ _ 22 rfl B0 3 i0 (.int .i64 0) 1 8 Tryd.underlying22 hi0 hz0 hz1 hz2 rfl (by decide) (.slice (some ⟨g7, 0, none⟩) (jj + 1) cap7) (jj + 1) (intsL (rwL (i + 1) (jj + 1))) rfl GY.out.2.1 ⟨bs, 0, none⟩ 1 1 [.int .i64 (S : Int)] rfl rfl hcs (by simp [Value.oneCell']) (by have := QJ.out; simp only [maxLen]; omega) (by have := QJ.out; omega) GY.out.2.2.2.2.2 ?_; intro v2 w6 hown' hgrow _))
          have hg7 := (World.ownsRow.lt GY.out.2.1 g7 rfl).1
          refine ⟨⟨jj + 1, by omega, by simp, GY.out.1.kept hgrow (.inr fun e => ?_), by rw [HSC.out, intsL_snoc]; exact hown', GY.out.2.2.1.grown hgrow GY.out.2.2.1.size (fun q hq => Nat.le_trans GY.out.2.2.2.2.1 (World.ownsRow.lt GY.out.2.1 q hq).1), GY.out.2.2.2.1, GY.out.2.2.2.2.1, Nat.le_trans GY.out.2.2.2.2.2 hgrow.size⟩, by simp [intOf]; omega⟩
          simp only [Value.ownBlock, Option.some.injEq] at e
          have := GY.out.2.2.2.1
          omega
        · have e : jj = i := by omega
          subst e
          have t3 : decide (jj + 1 < jj + 1) = false := decide_eq_false (by omega)
          have HSC : Hid (rwL (jj + 1) (jj + 1 + 1) = rwL (jj + 1) (jj + 1) ++ [1]) := by rw [Hid, rwL, hdia.out]
          have QJ : Hid (jj < 62) := hi62
          clear hpas hdia hfit
          go_wp2_with (at_builtin; go_loud (refine wpList_append_own _ rfl _ _ 22 rfl B0 3 i0 (.int .i64 0) 1 8 Tryd.underlying22 hi0 hz0 hz1 hz2 rfl (by decide) (.slice (some ⟨g7, 0, none⟩) (jj + 1) cap7) (jj + 1) (intsL (rwL (jj + 1) (jj + 1))) rfl (G.out.2.1.alloc _) ⟨wr.heap.size, 0, none⟩ 1 1 [.int .i64 1] rfl rfl (cell_one_new _ _ _) (by simp [Value.oneCell']) (by have := QJ.out; simp only [maxLen]; omega) (by have := QJ.out; omega) (by have := G.out.2.2.2.2.2; simp; omega) ?_; intro v2 w6 hown' hgrow _))
          refine ⟨⟨jj + 1, by omega, by simp, by rw [HSC.out, intsL_snoc]; exact ownsRow_le hown' G.out.2.2.2.2.1, ?_⟩, by simp [intOf]; omega⟩
          have hq : Below w.heap.size w (wr.alloc (.cells #[.int .i64 1] 3)) := G.out.2.2.1.alloc G.out.2.2.1.size _
          exact hq.grown hgrow hq.size (fun q hq => Nat.le_trans G.out.2.2.2.2.1 (World.ownsRow.lt G.out.2.1 q hq).1)
    · have e : i = n := by omega
      subst e
      have t1 : decide (i < i) = false := decide_eq_false (by omega)
      have hk : k < i + 1 := by have := HN.out; omega
      have hcell := row_at HO.out hk
      rw [Nat.zero_add] at hcell
      go_wp2_with fail
      go_ret
      exact ⟨rfl, HW.out⟩
theorem rchoose_any (n : Nat) (k : Int) (w : World) (hn : n ≤ 62) :
    Calls Tryd.prog 73 #[.int .i64 n, .int .i64 k] w fun e w' => e = .returned (.int .i64 (chI n k)) ∧ Below w.heap.size w w' := by
  by_cases h : k < 0 ∨ (n : Int) < k
  · have := rchoose_out n k w h
    have e : chI n k = 0 := by
      unfold chI; split
      · rfl
      · exact ch_above _ (by omega)
    rw [e]; exact this
  · obtain ⟨m, rfl⟩ := Int.eq_ofNat_of_zero_le (show 0 ≤ k by omega)
    rw [chI_nat]
    exact rchoose_in n m w hn (by omega)
theorem rChoose_out (n k : Int) (w : World) (h : n < 0 ∨ 62 < n) :
    Calls Tryd.prog 46 #[.int .i64 n, .int .i64 k] w fun e w' => e = .returned (.tuple #[.int .i64 0, .int .i64 1]) ∧ Below w.heap.size w w' := by
  rcases h with h | h
  · have h0 : decide (n < 0) = true := decide_eq_true h
    go_enter Tryd.func46, Tryd.ntmps46
    go_wp2_with fail
    go_ret2
    exact ⟨rfl, Below.refl _ _⟩
  · have h0 : decide (n < 0) = false := decide_eq_false (by omega)
    have h1 : decide (62 < n) = true := decide_eq_true h
    go_enter Tryd.func46, Tryd.ntmps46
    go_wp2_with fail
    go_ret2
    exact ⟨rfl, Below.refl _ _⟩
theorem rChoose_in (n : Nat) (k : Int) (w : World) (hn : n ≤ 62) :
    Calls Tryd.prog 46 #[.int .i64 n, .int .i64 k] w fun e w' => e = .returned (.tuple #[.int .i64 (chI n k), .int .i64 0]) ∧ Below w.heap.size w w' := by
  have h0 : decide ((n : Int) < 0) = false := decide_eq_false (by omega)
  have h1 : decide ((62 : Int) < (n : Int)) = false := decide_eq_false (by omega)
  go_enter Tryd.func46, Tryd.ntmps46
  go_wp2_with (first | (go_at_call 73; refine (rchoose_any n k _ hn).mono ?_; rintro e w' ⟨rfl, hb⟩))
  go_ret2
  exact ⟨rfl, hb⟩
end Go.Proofs.YtjifajigigflkaaDoor
namespace Go.Proofs.YtjifajigigflkaaDoor
set_option linter.unusedSimpArgs false
set_option linter.unusedVariables false
open Go Go.RowKit

theorem rchoose_nat (n k : Nat) (w : World) (hn : n ≤ 62) :
    Calls Tryd.prog 73 #[.int .i64 n, .int .i64 k] w fun e w' => e = .returned (.int .i64 (ch n k : Nat)) ∧ Below w.heap.size w w' := by
  have := rchoose_any n k w hn
  rwa [chI_nat] at this
theorem unr_up {n k p N : Nat} : ∀ m, n ≤ m → m ≤ 62 → p < ch n k → unr m k p N = unr n k p N
  | 0, h, _, _ => by rw [show n = 0 by omega]
  | m + 1, h, hm, hp => by
    by_cases e : n = m + 1
    · rw [e]
    · have hmo := ch_mono k (show n ≤ m by omega) (by omega)
      have ih := unr_up (N := N) m (by omega) (by omega) hp
      rw [unr]
      by_cases hk : k = 0
      · rw [if_pos hk, hk, unr_none]
      · rw [if_neg hk, if_neg (by omega)]; exact ih
/-- The result's slot, the set in the making. -/
def UnS (N b6 : Nat) (w W : World) : Prop := Blk W b6 (setA N) 25 ∧ Blk W w.heap.size (setA 0) 25 ∧ Below w.heap.size w W ∧ w.heap.size < b6
theorem UnS.below {N b6 : Nat} {w W W' : World} (h : UnS N b6 w W) (hb : Below W.heap.size W W') : UnS N b6 w W' :=
  ⟨h.1.below hb h.1.lt, h.2.1.below hb h.2.1.lt, h.2.2.1.trans (hb.mono h.2.2.1.size), h.2.2.2⟩
theorem UnS.put {N b6 : Nat} {w W : World} (h : UnS N b6 w W) (Y : Nat) : UnS Y b6 w ((((W.setCell ⟨b6, 0, none⟩ (.int .u64 ↑(word Y 0))).setCell ⟨b6, 1, none⟩ (.int .u64 ↑(word Y 1))).setCell ⟨b6, 2, none⟩ (.int .u64 ↑(word Y 2))).setCell ⟨b6, 3, none⟩ (.int .u64 ↑(word Y 3))) :=
  ⟨h.1.putS Y, h.2.1.other4 (by have := h.2.2.2; omega) _ _ _ _, below_put4 h.2.2.1 (by have := h.2.2.2; omega) _ _ _ _, h.2.2.2⟩
set_option maxRecDepth 100000 in
set_option maxHeartbeats 2000000 in
theorem runrank_out (k place : Int) (w : World) (h : k < 0 ∨ 62 < k ∨ place < 0 ∨ (chI 62 k : Int) ≤ place) :
    Calls Tryd.prog 50 #[.int .i64 k, .int .i64 place] w fun e w' => e = .returned (.tuple #[setV 0, .int .i64 1]) ∧ Below w.heap.size w w' := by
  have HC : Hid (∀ w, Calls Tryd.prog 73 #[.int .i64 62, .int .i64 k] w fun e w' => e = .returned (.int .i64 (chI 62 k)) ∧ Below w.heap.size w w') := fun w => rchoose_any 62 k w (by decide)
  by_cases h1 : k < 0
  · have t1 : decide (k < 0) = true := decide_eq_true h1
    clear h h1
    go_enter Tryd.func50, Tryd.ntmps50
    go_wp2_with fail
    refine named (fun W => Blk W w.heap.size (setA 0) 25 ∧ Below w.heap.size w W) ⟨Blk.newS _ _, (Below.refl _ _).alloc (Nat.le_refl _) _⟩ ?_
    rintro W ⟨hB, hbW⟩
    obtain ⟨q0, q1, q2, q3, _⟩ := hB.set4
    exact bodyPost_ret (v := .tuple #[setV 0, .int .i64 1]) (by simp [results, Tryd.results50, go_sem, q0, q1, q2, q3, setV]) rfl ⟨rfl, hbW⟩
  by_cases h2 : 62 < k
  · have t1 : decide (k < 0) = false := decide_eq_false h1
    have t2 : decide (62 < k) = true := decide_eq_true h2
    clear h h1 h2
    go_enter Tryd.func50, Tryd.ntmps50
    go_wp2_with fail
    refine named (fun W => Blk W w.heap.size (setA 0) 25 ∧ Below w.heap.size w W) ⟨Blk.newS _ _, (Below.refl _ _).alloc (Nat.le_refl _) _⟩ ?_
    rintro W ⟨hB, hbW⟩
    obtain ⟨q0, q1, q2, q3, _⟩ := hB.set4
    exact bodyPost_ret (v := .tuple #[setV 0, .int .i64 1]) (by simp [results, Tryd.results50, go_sem, q0, q1, q2, q3, setV]) rfl ⟨rfl, hbW⟩
  by_cases h3 : place < 0
  · have t1 : decide (k < 0) = false := decide_eq_false h1
    have t2 : decide (62 < k) = false := decide_eq_false h2
    have t3 : decide (place < 0) = true := decide_eq_true h3
    clear h h1 h2 h3
    go_enter Tryd.func50, Tryd.ntmps50
    go_wp2_with fail
    refine named (fun W => Blk W w.heap.size (setA 0) 25 ∧ Below w.heap.size w W) ⟨Blk.newS _ _, (Below.refl _ _).alloc (Nat.le_refl _) _⟩ ?_
    rintro W ⟨hB, hbW⟩
    obtain ⟨q0, q1, q2, q3, _⟩ := hB.set4
    exact bodyPost_ret (v := .tuple #[setV 0, .int .i64 1]) (by simp [results, Tryd.results50, go_sem, q0, q1, q2, q3, setV]) rfl ⟨rfl, hbW⟩
  · have t1 : decide (k < 0) = false := decide_eq_false h1
    have t2 : decide (62 < k) = false := decide_eq_false h2
    have t3 : decide (place < 0) = false := decide_eq_false h3
    have t4 : decide ((chI 62 k : Int) ≤ place) = true := decide_eq_true (by omega)
    clear h h1 h2 h3
    go_enter Tryd.func50, Tryd.ntmps50
    go_wp2_with (first | (go_at_call 73; refine (HC.out _).mono ?_; rintro e w2 ⟨rfl, hb⟩; have HB := Lib.hid ((Blk.newS w 25).below hb (by simp)); have HW := Lib.hid ((below_new1 w _).trans (hb.mono (by simp))); clear hb; obtain ⟨c0, c1, c2, c3, cf⟩ := HB.out.set4))
    refine named (fun W => Blk W w.heap.size (setA 0) 25 ∧ Below w.heap.size w W) ⟨HB.out.putS 0, below_put4 HW.out (Nat.le_refl _) _ _ _ _⟩ ?_
    rintro W ⟨hB, hbW⟩
    obtain ⟨q0, q1, q2, q3, _⟩ := hB.set4
    exact bodyPost_ret (v := .tuple #[setV 0, .int .i64 1]) (by simp [results, Tryd.results50, go_sem, q0, q1, q2, q3, setV]) rfl ⟨rfl, hbW⟩
set_option maxRecDepth 100000 in
set_option maxHeartbeats 2000000 in
theorem runrank_in (k p : Nat) (w : World) (hk : k ≤ 62) (hp : p < ch 62 k) :
    Calls Tryd.prog 50 #[.int .i64 k, .int .i64 p] w fun e w' => e = .returned (.tuple #[setV (unr 62 k p 0), .int .i64 0]) ∧ Below w.heap.size w w' := by
  have HC : Hid (∀ n k : Nat, n ≤ 62 → ∀ w, Calls Tryd.prog 73 #[.int .i64 n, .int .i64 k] w fun e w' => e = .returned (.int .i64 (ch n k : Nat)) ∧ Below w.heap.size w w') := fun n k h w => rchoose_nat n k w h
  have HWi : Hid (∀ N m : Nat, m < 256 → ∀ w, Calls Tryd.prog 66 #[setV N, .int .i64 m] w fun e w' => e = .returned (setV (N ||| 2^m)) ∧ Below w.heap.size w w') := fun N m h w => rwith_in N m w h
  have t0 : decide ((k : Int) < 0) = false := decide_eq_false (by omega)
  have t1 : decide ((62 : Int) < (k : Int)) = false := decide_eq_false (by omega)
  have t1' : decide (62 < k) = false := decide_eq_false (by omega)
  have t2 : decide ((p : Int) < 0) = false := decide_eq_false (by omega)
  have t3 : decide (ch 62 k ≤ p) = false := decide_eq_false (by omega)
  have HP := Lib.hid hp
  have HL := Lib.hid (ch_lt (n := 62) (k := k) (by decide))
  obtain ⟨R, hR⟩ : ∃ R, R = unr 62 k p 0 := ⟨_, rfl⟩
  have HR := Lib.hid hR
  rw [← hR]
  clear hp hR
  go_enter Tryd.func50, Tryd.ntmps50
  go_wp2_with (first | (go_at_call 73; refine (HC.out 62 k (by decide) _).mono ?_; rintro e w2 ⟨rfl, hb⟩; have HB := Lib.hid ((Blk.newS w 25).below hb (by simp)); have HW := Lib.hid ((below_new1 w _).trans (hb.mono (by simp))); clear hb))
  clear t0 t1 t1' t2 t3
  have hlt2 := HB.out.lt
  obtain ⟨b6, hb6⟩ : ∃ b, b = w2.heap.size := ⟨_, rfl⟩
  have HB6 := Lib.hid hb6
  simp only [← hb6]
  clear hb6
  go_loopw [1, 7] (fun tp tk wr => ∃ k1 p1 N : Nat, k1 ≤ 62 ∧ tp = .int .i64 p1 ∧ tk = .int .i64 k1 ∧ Hid (p1 < ch 62 k1) ∧ Hid (R = unr 62 k1 p1 N) ∧ UnS N b6 w wr) (fun _ tk _ => (intOf tk).toNat)
  case atStart =>
    refine ⟨k, p, 0, hk, rfl, rfl, HP, HR, ?_, HB.out.alloc _, HW.out.alloc HW.out.size _, by rw [HB6.out]; exact hlt2⟩
    rw [HB6.out]; exact Blk.newS _ _
  case round =>
    obtain ⟨k1, p1, N, hk1, rfl, rfl, HP1, HR1, hS⟩ := hrel
    have G := Lib.hid hS
    clear hS HR HP HB HW HB6 hlt2 HL
    by_cases hk0 : 0 < k1
    · have t1 : decide (0 < k1) = true := decide_eq_true hk0
      have HK0 := Lib.hid hk0
      have hpl : p1 < 9223372036854775808 := by have := HP1.out; have := ch_lt (n := 62) (k := k1) (by decide); omega
      clear hk0
      go_wp2_with fail
      go_loopw [8] (fun tn wx => ∃ n : Nat, n ≤ 61 ∧ tn = .int .i64 n ∧ Hid (p1 < ch (n + 1) k1) ∧ Hid (R = unr (n + 1) k1 p1 N) ∧ UnS N b6 w wx) (fun tn _ => (intOf tn).toNat)
      case atStart => exact ⟨61, by omega, rfl, HP1, HR1, G.out⟩
      case round =>
        obtain ⟨n, hn, rfl, HP2, HR2, hS⟩ := hrel
        clear HP1 HR1 G
        have G := Lib.hid hS
        clear hS
        obtain ⟨C, hC⟩ : ∃ C, C = ch n k1 := ⟨_, rfl⟩
        have HCn : Hid (∀ w, Calls Tryd.prog 73 #[.int .i64 n, .int .i64 k1] w fun e w' => e = .returned (.int .i64 (C : Nat)) ∧ Below w.heap.size w w') := fun w => by rw [hC]; exact HC.out n k1 (by omega) w
        have HCe := Lib.hid hC
        have hCl : C < 9223372036854775808 := by rw [hC]; exact ch_lt (by omega)
        clear hC
        by_cases hlt : p1 < C
        · have t2 : decide (p1 < C) = true := decide_eq_true hlt
          have hn0 : 1 ≤ n := by
            rcases Nat.eq_zero_or_pos n with e | e
            · exfalso
              have h1 := HCe.out
              rw [e, ch_above _ HK0.out] at h1
              omega
            · exact e
          have HLT := Lib.hid hlt
          clear hlt
          go_wp2_with (first | (go_at_call 73; refine (HCn.out _).mono ?_; rintro e w3 ⟨rfl, hb⟩))
          have hlt := HLT.out
          have hR2 := HR2.out
          refine ⟨⟨n - 1, by omega, by congr 1; omega, ?_, ?_, G.out.below hb⟩, by simp [intOf] <;> omega⟩
          · rw [show n - 1 + 1 = n by omega, ← HCe.out]; exact hlt
          · rw [show n - 1 + 1 = n by omega, hR2, unr, if_neg (by have := HK0.out; omega), if_neg (by rw [← HCe.out]; omega)]; rfl
        · have t2 : decide (p1 < C) = false := decide_eq_false hlt
          have HLT := Lib.hid hlt
          have hcp : C ≤ p1 := by omega
          have hk1' : 1 ≤ k1 := HK0.out
          clear hlt
          go_wp2_with (first | (go_at_call 73; refine (HCn.out _).mono ?_; rintro e w5 ⟨rfl, hb⟩; have GE := Lib.hid ((G.out.put (N ||| 2 ^ n)).below hb); clear hb c0 c1 c2 c3 cf G) | (go_at_call 73; refine (HCn.out _).mono ?_; rintro e w3 ⟨rfl, hb⟩; have G3 := Lib.hid (G.out.below hb); clear hb G; have G := G3; clear G3; obtain ⟨c0, c1, c2, c3, cf⟩ := G.out.1.set4) | (go_at_call 66; refine (HWi.out N n (by omega) _).mono ?_; rintro e w4 ⟨rfl, hb⟩; simp only [setV]; have G4 := Lib.hid (G.out.below hb); clear hb c0 c1 c2 c3 cf G; have G := G4; clear G4; obtain ⟨c0, c1, c2, c3, cf⟩ := G.out.1.set4))
          obtain ⟨r, rfl⟩ : ∃ r, k1 = r + 1 := ⟨k1 - 1, by omega⟩
          have hpa := ch_pascal (n := n) (k := r) (by omega)
          have h2 := HP2.out
          have h3 := HCe.out
          have hsm : p1 - C < ch n r := by omega
          have hmo := ch_mono r (show n ≤ 62 by omega) (by omega)
          refine ⟨⟨r, p1 - C, N ||| 2 ^ n, by omega, by congr 1; omega, by congr 1; omega, by rw [Hid]; omega, ?_, GE.out⟩, by simp [intOf]⟩
          rw [Hid, unr_up 62 (by omega) (by omega) hsm, HR2.out, unr, if_neg (by omega), if_pos (by omega), ← h3]; rfl
    · obtain rfl : k1 = 0 := by omega
      obtain ⟨c0, c1, c2, c3, cf⟩ := G.out.1.set4
      obtain ⟨d0, d1, d2, d3, df⟩ := G.out.2.1.set4
      go_wp2_with fail
      refine named (fun W => Blk W w.heap.size (setA N) 25 ∧ Below w.heap.size w W) ⟨G.out.2.1.put4 (by rfl) _ _ _ _, below_put4 G.out.2.2.1 (Nat.le_refl _) _ _ _ _⟩ ?_
      rintro W ⟨hB, hbW⟩
      obtain ⟨q0, q1, q2, q3, _⟩ := hB.set4
      exact bodyPost_ret (v := .tuple #[setV N, .int .i64 0]) (by simp [results, Tryd.results50, go_sem, q0, q1, q2, q3, setV]) rfl ⟨by rw [HR1.out, unr_none], hbW⟩
end Go.Proofs.YtjifajigigflkaaDoor
namespace Go.Proofs.YtjifajigigflkaaDoor
set_option linter.unusedSimpArgs false
set_option linter.unusedVariables false
open Go Go.RowKit

/-- What the loop knows of its world: the list. -/
def RnS (l : List Nat) (a : Option Addr) (w W : World) : Prop := Below w.heap.size w W ∧ Cells W a (intsL l)
theorem RnS.below {l : List Nat} {a : Option Addr} {w W W' : World} (h : RnS l a w W) (hb : Below W.heap.size W W') : RnS l a w W' :=
  ⟨h.1.trans (hb.mono h.1.size), h.2.below hb⟩
theorem RnS.at {l : List Nat} {g : Nat} {w W : World} (h : RnS l (some ⟨g, 0, none⟩) w W) {i x : Nat} (hk : l[i]? = some x) : W.cell? ⟨g, i, none⟩ = some (.int .i64 (x : Int)) := by
  have hk' : (intsL l)[i]? = some (.int .i64 (x : Int)) := by unfold intsL; rw [List.getElem?_map, hk]; rfl
  rcases h.2 with h | ⟨b, o, ha, hc⟩
  · rw [h] at hk'; cases hk'
  · cases ha; have := hc i _ hk'; rwa [Nat.zero_add] at this
theorem rk_take {l : List Nat} (hs : l.Pairwise (· < ·)) (i : Nat) (h : ∀ x ∈ l.take i, x ≤ 61) : rk (l.take i) 0 < 9223372036854775808 :=
  Nat.lt_trans (rk_lt _ (l.take i) 62 rfl (hs.sublist (List.take_sublist _ _)) (fun x hx => by have := h x hx; omega) (by omega)) (ch_lt (by omega))
theorem take_at {l : List Nat} {i x : Nat} (h : l[i]? = some x) : l.take (i + 1) = l.take i ++ [x] := by
  rw [List.take_add_one, h]; rfl
theorem rankV_many {N x : Nat} (hN : N < 2 ^ 256) (hx : x ∈ mem N) (h : 61 < x) : rankV N = .tuple #[.int .i64 0, .int .i64 2] := by
  unfold rankV
  cases e : nextO N 61 with
  | some j => rfl
  | none =>
    have hb := (mem_iff hN).1 hx
    have h256 : x < 256 := by
      have : x ∈ memF N 256 0 := hx
      have := (memF_iff.1 this).2.1
      omega
    rw [of_next_none e x (by omega) h256] at hb
    cases hb
theorem rankV_few {N : Nat} (hN : N < 2 ^ 256) (h : ∀ x ∈ mem N, x ≤ 61) : rankV N = .tuple #[.int .i64 (rk (mem N) 0), .int .i64 0] := by
  unfold rankV
  have e : nextO N 61 = none := next_eq_none fun i h1 _ => by
    cases hb : N.testBit i with
    | false => rfl
    | true => have := h i ((mem_iff hN).2 hb); omega
  rw [e]
set_option maxRecDepth 100000 in
set_option maxHeartbeats 2000000 in
theorem rRank_any (N : Nat) (w : World) (hN : N < 2 ^ 256) :
    Calls Tryd.prog 48 #[setV N] w fun e w' => e = .returned (rankV N) ∧ Below w.heap.size w w' := by
  have HMany : Hid (∀ x ∈ mem N, 61 < x → rankV N = .tuple #[.int .i64 0, .int .i64 2]) := fun x hx h => rankV_many hN hx h
  have HFew : Hid ((∀ x ∈ mem N, x ≤ 61) → rankV N = .tuple #[.int .i64 (rk (mem N) 0), .int .i64 0]) := rankV_few hN
  have hsort := mem_sorted N
  have hl := mem_length N
  have HM0 := rMembers_any N
  obtain ⟨l, hle⟩ : ∃ l, l = mem N := ⟨_, rfl⟩
  rw [← hle] at hsort hl HM0 HMany HFew
  obtain ⟨ln, hln⟩ : ∃ n, n = l.length := ⟨_, rfl⟩
  rw [← hln] at hl HM0
  obtain ⟨R, hR⟩ : ∃ R, R = rankV N := ⟨_, rfl⟩
  rw [← hR] at HMany HFew ⊢
  have HLN := Lib.hid hln
  have HSO := Lib.hid hsort
  have HM : Hid (∀ w, Calls Tryd.prog 23 #[setV N] w fun e w' => ∃ a cap, e = .returned (.slice a ln cap) ∧ Cells w' a (intsL l) ∧ (intsL l = [] ∨ ∃ b, a = some ⟨b, 0, none⟩) ∧ Below w.heap.size w w') := fun w => (HM0 w).mono fun e w' ⟨v, h1, h2, h3⟩ => by
    obtain ⟨_, a, cap, rfl, hc, hd⟩ := ownsRow_cells h2
    exact ⟨a, cap, h1, hc, hd.imp id fun ⟨b, e, _⟩ => ⟨b, e⟩, h3⟩
  clear hle hln hR hsort HM0 hN
  go_enter Tryd.func48, Tryd.ntmps48
  simp only [setV]
  go_wp2_with (first | (go_at_call 23; refine (HM.out _).mono ?_; rintro e w2 ⟨a, cap, rfl, hc, hd, hb⟩; have HS2 : Hid (RnS l a w w2) := ⟨(below_new1 _ _).trans (hb.mono (by simp)), hc⟩; have HD := Lib.hid hd; clear hc hd hb))
  go_loopw [5, 6] (fun ts ti wr => ∃ i S : Nat, i ≤ ln ∧ S < 9223372036854775808 ∧ ti = .int .i64 i ∧ ts = .int .i64 S ∧ Hid (S = rk (l.take i) 0 ∧ ∀ x ∈ l.take i, x ≤ 61) ∧ RnS l a w wr) (fun _ ti _ => ln - (intOf ti).toNat)
  case atStart => exact ⟨0, 0, by omega, by omega, rfl, rfl, ⟨rfl, fun x h => by cases h⟩, HS2.out⟩
  case round =>
    obtain ⟨i, S, hi, hS63, rfl, rfl, HI, hS⟩ := hrel
    clear HS2
    have G := Lib.hid hS
    clear hS
    by_cases hlt : i < ln
    · have t1 : decide (i < ln) = true := decide_eq_true hlt
      obtain ⟨x, hx⟩ : ∃ x, l[i]? = some x := ⟨l[i]'(by rw [← HLN.out]; exact hlt), List.getElem?_eq_getElem _⟩
      obtain ⟨g, rfl⟩ : ∃ g, a = some ⟨g, 0, none⟩ := by
        rcases HD.out with h | h
        · exfalso
          have := intsL_length l
          rw [h, ← HLN.out] at this
          simp at this; omega
        · exact h
      have HX := Lib.hid hx
      have hxm : x ∈ l := List.mem_of_getElem? hx
      have hx256 : Hid (x ∈ l) := hxm
      have hcell := G.out.at hx
      clear hx hxm
      by_cases h61 : 61 < x
      · have t2 : decide (61 < x) = true := decide_eq_true h61
        have t3 : decide ((61 : Int) < (x : Int)) = true := decide_eq_true (by omega)
        have HRR := HMany.out x hx256.out h61
        have HQ := Lib.hid HRR
        clear HRR HMany HFew
        go_wp2_with fail
        go_ret2
        exact ⟨congrArg Ending.returned HQ.out.symm, G.out.1⟩
      · have t2 : decide (61 < x) = false := decide_eq_false h61
        have t3 : decide ((61 : Int) < (x : Int)) = false := decide_eq_false (by omega)
        obtain ⟨C, hC⟩ : ∃ C, C = ch x (i + 1) := ⟨_, rfl⟩
        have HC : Hid (∀ w, Calls Tryd.prog 73 #[.int .i64 x, .int .i64 ((i : Int) + 1)] w fun e w' => e = .returned (.int .i64 (C : Nat)) ∧ Below w.heap.size w w') := fun w => by
          have := rchoose_any x ((i + 1 : Nat) : Int) w (by omega)
          rw [chI_nat, ← hC] at this
          exact this
        have hnew : S + C = rk (l.take (i + 1)) 0 ∧ ∀ y ∈ l.take (i + 1), y ≤ 61 := by
          rw [take_at HX.out, rk_snoc, hC, HI.out.1, List.length_take, ← HLN.out, show 0 + min i ln + 1 = i + 1 by omega]
          refine ⟨rfl, fun y hy => ?_⟩
          rcases List.mem_append.1 hy with h | h
          · exact HI.out.2 y h
          · rw [List.mem_singleton.1 h]; omega
        have hfit : S + C < 9223372036854775808 := by rw [hnew.1]; exact rk_take HSO.out _ hnew.2
        have HNEW := Lib.hid hnew
        clear hC hnew
        go_wp2_with (first | (go_at_call 73; refine (HC.out _).mono ?_; rintro e w3 ⟨rfl, hb⟩))
        refine ⟨⟨i + 1, S + C, by omega, hfit, by simp, by simp, HNEW.out, G.out.below hb⟩, by simp [intOf] <;> omega⟩
    · have e : i = ln := by omega
      subst e
      have t1 : decide (i < i) = false := decide_eq_false (by omega)
      have htk : l.take i = l := by rw [HLN.out]; exact List.take_length
      have HQ : Hid (R = .tuple #[.int .i64 (S : Nat), .int .i64 0]) := by
        have h := HI.out
        rw [htk] at h
        rw [Hid, h.1]; exact HFew.out h.2
      clear htk HFew HMany
      go_wp2_with fail
      go_ret2
      exact ⟨congrArg Ending.returned HQ.out.symm, G.out.1⟩
end Go.Proofs.YtjifajigigflkaaDoor
namespace Go.Proofs.YtjifajigigflkaaDoor
set_option linter.unusedSimpArgs false
set_option linter.unusedVariables false
open Go Go.RowKit

theorem ofL_nats : ∀ (l : List Nat) (A : Nat), (∀ x ∈ l, x < 256) → ofL (l.map fun (x : Nat) => (x : Int)) A = some (l.foldl (fun s x => s ||| 2 ^ x) A)
  | [], A, _ => rfl
  | x :: l, A, h => by
    have hx := h x (by simp)
    simp only [List.map_cons, List.foldl_cons, ofL]
    rw [if_pos (by omega), Int.toNat_natCast]
    exact ofL_nats l _ fun y hy => h y (by simp [hy])
theorem testBit_fold : ∀ (l : List Nat) (A i : Nat), (l.foldl (fun s x => s ||| 2 ^ x) A).testBit i = (A.testBit i || decide (i ∈ l))
  | [], A, i => by simp
  | x :: l, A, i => by
    rw [List.foldl_cons, testBit_fold l, Nat.testBit_or, Nat.testBit_two_pow]
    by_cases h : x = i
    · subst h; simp
    · have h2 : ¬ i = x := fun e => h e.symm
      simp [h, h2]
theorem fold_mem {N : Nat} (h : N < 2 ^ 256) : (mem N).foldl (fun s x => s ||| 2 ^ x) 0 = N := by
  apply Nat.eq_of_testBit_eq; intro i
  rw [testBit_fold, Nat.zero_testBit, Bool.false_or]
  have := mem_iff (i := i) h
  cases hb : N.testBit i
  · rw [hb] at this; simp at this; simpa using this
  · rw [hb] at this; simpa using this
theorem mem_lt {N x : Nat} (h : N < 2 ^ 256) (hx : x ∈ mem N) : x < 256 := by
  rw [mem_iff h] at hx
  rcases Nat.lt_or_ge x 256 with h1 | h1
  · exact h1
  · rw [testBit_big h h1] at hx; cases hx
theorem ofL_mem {N : Nat} (h : N < 2 ^ 256) : ofL ((mem N).map fun (x : Nat) => (x : Int)) 0 = some N := by
  rw [ofL_nats _ _ fun x hx => mem_lt h hx, fold_mem h]
theorem card_wo {N j : Nat} (hj : N.testBit j = true) (hl : j < 256) : card (diff N (2 ^ j)) + 1 = card N := by
  have h := card_and_diff N (2 ^ j)
  have e : card (N &&& 2 ^ j) = 1 := by
    have e2 : N &&& 2 ^ j = 2 ^ j := by
      apply Nat.eq_of_testBit_eq; intro i
      rw [Nat.testBit_and, Nat.testBit_two_pow]
      by_cases h : j = i
      · subst h; simp [hj]
      · simp [h]
    rw [e2]
    have hp : ∀ n, cnt (2 ^ j) n = if j < n then 1 else 0 := fun n => by
      induction n with
      | zero => rfl
      | succ n ih =>
        simp only [cnt]
        rw [ih, Nat.testBit_two_pow]
        by_cases h1 : j < n
        · rw [if_pos h1, if_pos (by omega)]
          simp [show ¬ j = n by omega]
        · rw [if_neg h1]
          by_cases h2 : j = n
          · subst h2; simp
          · rw [if_neg (by omega)]; simp [h2]
    unfold card
    rw [hp, if_pos hl]
  omega
theorem wo_back {N j : Nat} (hj : N.testBit j = true) : diff N (2 ^ j) ||| 2 ^ j = N := by
  apply Nat.eq_of_testBit_eq; intro i
  rw [Nat.testBit_or, testBit_diff, Nat.testBit_two_pow]
  by_cases h : j = i
  · subst h; simp [hj]
  · simp [h]
/-- Whether n is among these numbers. -/
def isIn (l : List Nat) (n : Int) : Bool := l.any fun x => (x : Int) == n
theorem isIn_snoc (l : List Nat) (x : Nat) (n : Int) : isIn (l ++ [x]) n = (isIn l n || ((x : Int) == n)) := by unfold isIn; rw [List.any_append]; simp
theorem isIn_mem {N : Nat} (h : N < 2 ^ 256) (n : Int) : isIn (mem N) n = hasB N n := by
  rw [Bool.eq_iff_iff]
  unfold isIn hasB
  simp only [List.any_eq_true, beq_iff_eq, Bool.and_eq_true, decide_eq_true_eq]
  constructor
  · rintro ⟨x, hx, rfl⟩
    have := mem_lt h hx
    rw [mem_iff h] at hx
    exact ⟨⟨by omega, by omega⟩, by simpa using hx⟩
  · rintro ⟨⟨h1, h2⟩, h3⟩
    exact ⟨n.toNat, (mem_iff h).2 h3, by omega⟩
end Go.Proofs.YtjifajigigflkaaDoor
namespace Go.Proofs.YtjifajigigflkaaDoor
set_option linter.unusedSimpArgs false
set_option linter.unusedVariables false
open Go Go.RowKit

theorem unr_rk : ∀ (f : Nat) (l : List Nat) (m A : Nat), l.length = f → l.Pairwise (· < ·) → (∀ x ∈ l, x < m) → m ≤ 62 → unr m l.length (rk l 0) A = l.reverse.foldl (fun s x => s ||| 2 ^ x) A
  | 0, l, m, A, hf, _, _, _ => by
    rw [List.length_eq_zero_iff.1 hf]; simp [unr_none]
  | f + 1, l, m, A, hf, hs, ha, hm => by
    obtain ⟨l', n, rfl⟩ := list_snoc l (by rintro rfl; simp at hf)
    have hn := ha n (by simp)
    have hs' := List.pairwise_append.1 hs
    have hl' : ∀ x ∈ l', x < n := fun x hx => hs'.2.2 x hx n (by simp)
    have hlen : l'.length = f := by simp at hf; omega
    have hr : rk (l' ++ [n]) 0 = rk l' 0 + ch n (l'.length + 1) := by rw [rk_snoc, Nat.zero_add]
    have hlt : rk l' 0 < ch n l'.length := rk_lt f l' n hlen hs'.1 hl' (by omega)
    have hp := ch_pascal (n := n) (k := l'.length) (by omega)
    have ih := unr_rk f l' n (A ||| 2 ^ n) hlen hs'.1 hl' (by omega)
    rw [List.length_append, List.length_singleton, hr, unr_up (n := n + 1) m (by omega) hm (by omega), unr, if_neg (by omega), if_pos (by omega), Nat.add_sub_cancel, Nat.add_sub_cancel, ih, List.reverse_append]
    rfl
theorem rk_onto : ∀ m k p, m ≤ 62 → p < ch m k → ∃ l : List Nat, l.Pairwise (· < ·) ∧ (∀ x ∈ l, x < m) ∧ l.length = k ∧ rk l 0 = p
  | 0, 0, p, _, h => by rw [ch_zero] at h; exact ⟨[], List.Pairwise.nil, fun x hx => (by cases hx), rfl, (by simp only [rk]; omega)⟩
  | 0, k + 1, p, _, h => by rw [ch_above _ (by omega)] at h; omega
  | m + 1, 0, p, _, h => by rw [ch_zero] at h; exact ⟨[], List.Pairwise.nil, fun x hx => (by cases hx), rfl, (by simp only [rk]; omega)⟩
  | m + 1, k + 1, p, hm, h => by
    have hp := ch_pascal (n := m) (k := k) (by omega)
    by_cases e : ch m (k + 1) ≤ p
    · obtain ⟨l, h1, h2, h3, h4⟩ := rk_onto m k (p - ch m (k + 1)) (by omega) (by omega)
      refine ⟨l ++ [m], List.pairwise_append.2 ⟨h1, List.pairwise_singleton _ _, fun x hx y hy => ?_⟩, fun x hx => ?_, by simp [h3], ?_⟩
      · rw [List.mem_singleton.1 hy]; exact h2 x hx
      · rcases List.mem_append.1 hx with h | h
        · have := h2 x h; omega
        · rw [List.mem_singleton.1 h]; omega
      · rw [rk_snoc, h3, h4, Nat.zero_add]; omega
    · obtain ⟨l, h1, h2, h3, h4⟩ := rk_onto m (k + 1) p (by omega) (by omega)
      exact ⟨l, h1, fun x hx => by have := h2 x hx; omega, h3, h4⟩
theorem sorted_ext : ∀ (l l' : List Nat), l.Pairwise (· < ·) → l'.Pairwise (· < ·) → (∀ x, x ∈ l ↔ x ∈ l') → l = l'
  | [], [], _, _, _ => rfl
  | [], b :: l', _, _, h => by have := (h b).2 (by simp); cases this
  | a :: l, [], _, _, h => by have := (h a).1 (by simp); cases this
  | a :: l, b :: l', h1, h2, h => by
    obtain ⟨ha, h1'⟩ := List.pairwise_cons.1 h1
    obtain ⟨hb, h2'⟩ := List.pairwise_cons.1 h2
    have e : a = b := by
      have p1 := (h a).1 (by simp)
      have p2 := (h b).2 (by simp)
      rcases List.mem_cons.1 p1 with e | e
      · exact e
      · rcases List.mem_cons.1 p2 with e2 | e2
        · exact e2.symm
        · have := ha b e2; have := hb a e; omega
    subst e
    rw [sorted_ext l l' h1' h2' fun x => ?_]
    constructor
    · intro hx
      have := ha x hx
      rcases List.mem_cons.1 ((h x).1 (by simp [hx])) with e | e
      · omega
      · exact e
    · intro hx
      have := hb x hx
      rcases List.mem_cons.1 ((h x).2 (by simp [hx])) with e | e
      · omega
      · exact e
theorem few_len {N : Nat} (h : ∀ x ∈ mem N, x ≤ 61) : rk (mem N) 0 < ch 62 (card N) ∧ card N ≤ 62 := by
  have h1 := rk_lt _ (mem N) 62 rfl (mem_sorted N) (fun x hx => by have := h x hx; omega) (by omega)
  rw [mem_card] at h1
  refine ⟨h1, ?_⟩
  by_cases e : card N ≤ 62
  · exact e
  · rw [ch_above _ (by omega)] at h1; omega
theorem rev_fold {N : Nat} {l : List Nat} (h : ∀ i, i ∈ l ↔ N.testBit i = true) : l.reverse.foldl (fun s x => s ||| 2 ^ x) 0 = N := by
  apply Nat.eq_of_testBit_eq; intro i
  rw [testBit_fold, Nat.zero_testBit, Bool.false_or]
  have := h i
  cases hb : N.testBit i
  · rw [hb] at this; simpa using this
  · rw [hb] at this; simpa using this
/-- The set of a set's place is the set. -/
theorem unr_of_rk {N : Nat} (hN : N < 2 ^ 256) (h : ∀ x ∈ mem N, x ≤ 61) : unr 62 (card N) (rk (mem N) 0) 0 = N := by
  have := unr_rk _ (mem N) 62 0 rfl (mem_sorted N) (fun x hx => by have := h x hx; omega) (by omega)
  rw [← mem_card, this]
  exact rev_fold fun i => mem_iff hN
/-- The set of a place has this place, and its size. -/
theorem rk_of_unr {k p : Nat} (hp : p < ch 62 k) : unr 62 k p 0 < 2 ^ 256 ∧ (∀ x ∈ mem (unr 62 k p 0), x ≤ 61) ∧ rk (mem (unr 62 k p 0)) 0 = p ∧ card (unr 62 k p 0) = k := by
  obtain ⟨l, h1, h2, h3, h4⟩ := rk_onto 62 k p (by omega) hp
  have hu := unr_rk _ l 62 0 rfl h1 h2 (by omega)
  rw [h3, h4] at hu
  have hb : ∀ i, (unr 62 k p 0).testBit i = true ↔ i ∈ l := fun i => by
    rw [hu, testBit_fold, Nat.zero_testBit, Bool.false_or]; simp
  have hlt : unr 62 k p 0 < 2 ^ 256 := Nat.lt_pow_two_of_testBit _ fun i hi => by
    cases h : (unr 62 k p 0).testBit i with
    | false => rfl
    | true => have := h2 i ((hb i).1 h); omega
  have he : mem (unr 62 k p 0) = l := sorted_ext _ _ (mem_sorted _) h1 fun x => by rw [mem_iff hlt, hb]
  rw [← mem_card, he]
  exact ⟨hlt, fun x hx => by have := h2 x hx; omega, h4, h3⟩
theorem rk_top : ∀ (f : Nat) (l1 l2 : List Nat), l1.length = f → l2.length = f → l1.Pairwise (· < ·) → l2.Pairwise (· < ·) → (∀ x ∈ l1, x < 62) → (∀ x ∈ l2, x < 62) → rk l1 0 < rk l2 0 →
    ∃ j, j ∉ l1 ∧ j ∈ l2 ∧ ∀ i, j < i → (i ∈ l1 ↔ i ∈ l2)
  | 0, l1, l2, h1, h2, _, _, _, _, h => by
    rw [List.length_eq_zero_iff.1 h1, List.length_eq_zero_iff.1 h2] at h; omega
  | f + 1, l1, l2, h1, h2, s1, s2, b1, b2, h => by
    obtain ⟨a, x, rfl⟩ := list_snoc l1 (by rintro rfl; simp at h1)
    obtain ⟨b, y, rfl⟩ := list_snoc l2 (by rintro rfl; simp at h2)
    have s1' := List.pairwise_append.1 s1
    have s2' := List.pairwise_append.1 s2
    have la : ∀ z ∈ a, z < x := fun z hz => s1'.2.2 z hz x (by simp)
    have lb : ∀ z ∈ b, z < y := fun z hz => s2'.2.2 z hz y (by simp)
    have ea : a.length = f := by simp at h1; omega
    have eb : b.length = f := by simp at h2; omega
    have hx := b1 x (by simp)
    have hy := b2 y (by simp)
    rw [rk_snoc, rk_snoc, ea, eb, Nat.zero_add] at h
    rcases Nat.lt_trichotomy x y with e | e | e
    · refine ⟨y, fun hm => ?_, by simp, fun i hi => ?_⟩
      · rcases List.mem_append.1 hm with h | h
        · have := la y h; omega
        · have := List.mem_singleton.1 h; omega
      · constructor
        · intro hm
          rcases List.mem_append.1 hm with h | h
          · have := la i h; omega
          · have := List.mem_singleton.1 h; omega
        · intro hm
          rcases List.mem_append.1 hm with h | h
          · have := lb i h; omega
          · have := List.mem_singleton.1 h; omega
    · subst e
      obtain ⟨j, q1, q2, q3⟩ := rk_top f a b ea eb s1'.1 s2'.1 (fun z hz => b1 z (by simp [hz])) (fun z hz => b2 z (by simp [hz])) (by omega)
      have hj := lb j q2
      refine ⟨j, fun hm => ?_, by simp [q2], fun i hi => ?_⟩
      · rcases List.mem_append.1 hm with h | h
        · exact q1 h
        · have := List.mem_singleton.1 h; omega
      · rw [List.mem_append, List.mem_append, q3 i hi]
    · have r2 := rk_lt f b y eb s2'.1 lb (by omega)
      have hp := ch_pascal (n := y) (k := b.length) (by omega)
      have hmo := ch_mono (f + 1) (show y + 1 ≤ x by omega) (by omega)
      rw [eb] at r2 hp
      omega
theorem lt_of_rk {N M : Nat} (hN : N < 2 ^ 256) (hM : M < 2 ^ 256) (h1 : ∀ x ∈ mem N, x ≤ 61) (h2 : ∀ x ∈ mem M, x ≤ 61) (hc : card N = card M) (h : rk (mem N) 0 < rk (mem M) 0) : N < M := by
  obtain ⟨j, q1, q2, q3⟩ := rk_top _ (mem N) (mem M) rfl (by rw [mem_card, mem_card, hc]) (mem_sorted N) (mem_sorted M) (fun x hx => by have := h1 x hx; omega) (fun x hx => by have := h2 x hx; omega) h
  rw [mem_iff hN] at q1
  rw [mem_iff hM] at q2
  refine lt_of_bits (i := j) (by simpa using q1) q2 fun i hi => ?_
  have := q3 i hi
  rw [mem_iff hN, mem_iff hM] at this
  cases ha : N.testBit i <;> cases hb : M.testBit i <;> simp [ha, hb] at this ⊢
/-- Sets of one size stand in the order of their places. -/
theorem cmp_rk {N M : Nat} (hN : N < 2 ^ 256) (hM : M < 2 ^ 256) (h1 : ∀ x ∈ mem N, x ≤ 61) (h2 : ∀ x ∈ mem M, x ≤ 61) (hc : card N = card M) :
    (cmpS N M = -1 ∧ rk (mem N) 0 < rk (mem M) 0) ∨ (cmpS N M = 0 ∧ rk (mem N) 0 = rk (mem M) 0) ∨ (cmpS N M = 1 ∧ rk (mem M) 0 < rk (mem N) 0) := by
  rcases Nat.lt_trichotomy (rk (mem N) 0) (rk (mem M) 0) with e | e | e
  · exact .inl ⟨cmp_of_lt (lt_of_rk hN hM h1 h2 hc e), e⟩
  · have e1 := unr_of_rk hN h1
    rw [hc, e, unr_of_rk hM h2] at e1
    subst e1
    exact .inr (.inl ⟨cmp_self _, e⟩)
  · exact .inr (.inr ⟨cmp_of_gt (lt_of_rk hM hN h2 h1 hc.symm e), e⟩)
end Go.Proofs.YtjifajigigflkaaDoor
namespace Go.Proofs.YtjifajigigflkaaDoor
set_option linter.unusedSimpArgs false
set_option linter.unusedVariables false
open Go Go.RowKit

theorem top_bit (x y : Nat) : ∀ n, (∀ i, n ≤ i → x.testBit i = y.testBit i) → (∃ j, x.testBit j ≠ y.testBit j ∧ ∀ i, j < i → x.testBit i = y.testBit i) ∨ x = y
  | 0, h => .inr (Nat.eq_of_testBit_eq fun i => h i (by omega))
  | n + 1, h => by
    by_cases e : x.testBit n = y.testBit n
    · exact top_bit x y n fun i hi => by
        by_cases q : i = n
        · rw [q]; exact e
        · exact h i (by omega)
    · exact .inl ⟨n, e, fun i hi => h i (by omega)⟩
theorem top_lt {x y : Nat} (hx : x < 2 ^ 256) (hy : y < 2 ^ 256) (h : x < y) : ∃ j, j < 256 ∧ x.testBit j = false ∧ y.testBit j = true ∧ ∀ i, j < i → x.testBit i = y.testBit i := by
  rcases top_bit x y 256 (fun i hi => by rw [testBit_big hx hi, testBit_big hy hi]) with ⟨j, h1, h2⟩ | e
  · have hj : j < 256 := by
      rcases Nat.lt_or_ge j 256 with h | h
      · exact h
      · exact absurd (by rw [testBit_big hx h, testBit_big hy h]) h1
    cases ha : x.testBit j with
    | false =>
      cases hb : y.testBit j with
      | false => rw [ha, hb] at h1; exact absurd rfl h1
      | true => exact ⟨j, hj, ha, hb, h2⟩
    | true =>
      cases hb : y.testBit j with
      | true => rw [ha, hb] at h1; exact absurd rfl h1
      | false => have := lt_of_bits hb ha fun i hi => (h2 i hi).symm; omega
  · omega
theorem cnt_span (x y a : Nat) : ∀ d, (∀ i, a ≤ i → i < a + d → x.testBit i = y.testBit i) → cnt x (a + d) + cnt y a = cnt y (a + d) + cnt x a
  | 0, _ => Nat.add_comm _ _
  | d + 1, h => by
    have ih := cnt_span x y a d fun i h1 h2 => h i h1 (by omega)
    have e := h (a + d) (by omega) (by omega)
    rw [← Nat.add_assoc, cnt, cnt, e]; omega
theorem cnt_zeros (x a : Nat) : ∀ d, (∀ i, a ≤ i → i < a + d → x.testBit i = false) → cnt x (a + d) = cnt x a
  | 0, _ => rfl
  | d + 1, h => by
    have ih := cnt_zeros x a d fun i h1 h2 => h i h1 (by omega)
    have e := h (a + d) (by omega) (by omega)
    rw [← Nat.add_assoc, cnt, e, ih]; rfl
theorem cnt_ones (x a : Nat) : ∀ d, (∀ i, a ≤ i → i < a + d → x.testBit i = true) → cnt x (a + d) = cnt x a + d
  | 0, _ => rfl
  | d + 1, h => by
    have ih := cnt_ones x a d fun i h1 h2 => h i h1 (by omega)
    have e := h (a + d) (by omega) (by omega)
    rw [← Nat.add_assoc, cnt, e, ih]; rfl
theorem cnt_same {x y a b : Nat} (hab : a ≤ b) (h : ∀ i, a ≤ i → i < b → x.testBit i = y.testBit i) : cnt x b + cnt y a = cnt y b + cnt x a := by
  have := cnt_span x y a (b - a) fun i h1 h2 => h i h1 (by omega)
  rwa [show a + (b - a) = b by omega] at this
theorem cnt_zero {x a b : Nat} (hab : a ≤ b) (h : ∀ i, a ≤ i → i < b → x.testBit i = false) : cnt x b = cnt x a := by
  have := cnt_zeros x a (b - a) fun i h1 h2 => h i h1 (by omega)
  rwa [show a + (b - a) = b by omega] at this
theorem cnt_one {x a b : Nat} (hab : a ≤ b) (h : ∀ i, a ≤ i → i < b → x.testBit i = true) : cnt x b = cnt x a + (b - a) := by
  have := cnt_ones x a (b - a) fun i h1 h2 => h i h1 (by omega)
  rwa [show a + (b - a) = b by omega] at this
theorem cnt_at1 {x n : Nat} (h : x.testBit n = true) : cnt x (n + 1) = cnt x n + 1 := by rw [cnt, h]; rfl
theorem cnt_at0 {x n : Nat} (h : x.testBit n = false) : cnt x (n + 1) = cnt x n := by rw [cnt, h]; rfl
theorem low_no {N M f j : Nat} (hc : card M = card N) (hf : f ≤ 256) (hlow : ∀ i, i < f → N.testBit i = false) (hj : j < f) (h1 : M.testBit j = true) (h2 : ∀ i, j < i → N.testBit i = M.testBit i) : False := by
  have a := cnt_zero (x := N) (a := 0) (b := j + 1) (by omega) fun i _ hi => hlow i (by omega)
  have b := cnt_at1 h1
  have c := cnt_same (x := N) (y := M) (a := j + 1) (b := 256) (by omega) fun i hi _ => h2 i (by omega)
  unfold card at hc
  rw [show cnt N 0 = 0 from rfl] at a
  omega
theorem after_bits {N f r : Nat} (hfr : f ≤ r) (hlow : ∀ i, i < f → N.testBit i = false) :
    (∀ i, i < r - f → (ins (clr N f (r - f + 1)) 0 (r - f) ||| 2 ^ (r + 1)).testBit i = true) ∧ (∀ i, r - f ≤ i → i ≤ r → (ins (clr N f (r - f + 1)) 0 (r - f) ||| 2 ^ (r + 1)).testBit i = false) ∧
    (ins (clr N f (r - f + 1)) 0 (r - f) ||| 2 ^ (r + 1)).testBit (r + 1) = true ∧ (∀ i, r + 1 < i → (ins (clr N f (r - f + 1)) 0 (r - f) ||| 2 ^ (r + 1)).testBit i = N.testBit i) := by
  have key : ∀ i, (ins (clr N f (r - f + 1)) 0 (r - f) ||| 2 ^ (r + 1)).testBit i = (((N.testBit i && !(decide (f ≤ i) && decide (i < f + (r - f + 1)))) || (decide (0 ≤ i) && decide (i < 0 + (r - f)))) || decide (r + 1 = i)) := fun i => by
    rw [Nat.testBit_or, testBit_ins, testBit_clr, Nat.testBit_two_pow]
  refine ⟨fun i hi => ?_, fun i h1 h2 => ?_, ?_, fun i hi => ?_⟩
  · rw [key, decide_eq_true (show i < 0 + (r - f) by omega)]; simp
  · rw [key, decide_eq_false (show ¬ i < 0 + (r - f) by omega), decide_eq_false (show ¬ r + 1 = i by omega)]
    by_cases e : f ≤ i
    · rw [decide_eq_true e, decide_eq_true (show i < f + (r - f + 1) by omega)]; simp
    · rw [hlow i (by omega)]; simp
  · rw [key]; simp
  · rw [key, decide_eq_false (show ¬ i < 0 + (r - f) by omega), decide_eq_false (show ¬ r + 1 = i by omega), decide_eq_false (show ¬ i < f + (r - f + 1) by omega)]; simp
theorem after_spec {N A : Nat} (hN : N < 2 ^ 256) (h : afterO N = some A) : A < 2 ^ 256 ∧ N < A ∧ card A = card N ∧ ∀ M, M < 2 ^ 256 → card M = card N → N < M → ¬ M < A := by
  unfold afterO at h
  cases hn : nextO N (-1) with
  | none => rw [hn] at h; cases h
  | some f =>
    rw [hn] at h
    simp only at h
    obtain ⟨_, hf, hbit, hlow0⟩ := of_next_some hn
    have hlow : ∀ i, i < f → N.testBit i = false := fun i hi => hlow0 i (by omega) hi
    obtain ⟨g1, g2, g3, g4⟩ := run_of hN hbit
    generalize runE N 256 f = r at h g1 g2 g3 g4
    by_cases e : r = 255
    · rw [if_pos e] at h; cases h
    · rw [if_neg e] at h
      obtain ⟨b1, b2, b3, b4⟩ := after_bits (N := N) g1 hlow
      have hA := Option.some.inj h
      rw [hA] at b1 b2 b3 b4
      have hA256 : A < 2 ^ 256 := Nat.lt_pow_two_of_testBit _ fun i hi => by rw [b4 i (by omega)]; exact testBit_big hN hi
      have n1 := cnt_zero (x := N) (a := 0) (b := f) (by omega) fun i _ hi => hlow i hi
      have n2 := cnt_one (x := N) (a := f) (b := r + 1) (by omega) fun i h1 h2 => g3 i h1 (by omega)
      have n3 := cnt_at0 g4
      have a1 := cnt_one (x := A) (a := 0) (b := r - f) (by omega) fun i _ hi => b1 i hi
      have a2 := cnt_zero (x := A) (a := r - f) (b := r + 1) (by omega) fun i h1 h2 => b2 i h1 (by omega)
      have a3 := cnt_at1 b3
      have an := cnt_same (x := A) (y := N) (a := r + 1 + 1) (b := 256) (by omega) fun i hi _ => b4 i (by omega)
      rw [show cnt N 0 = 0 from rfl] at n1
      rw [show cnt A 0 = 0 from rfl] at a1
      refine ⟨hA256, lt_of_bits g4 b3 fun i hi => (b4 i hi).symm, by unfold card; omega, fun M hM hc hNM hMA => ?_⟩
      obtain ⟨j, hj, j1, j2, j3⟩ := top_lt hN hM hNM
      obtain ⟨i, hi, i1, i2, i3⟩ := top_lt hM hA256 hMA
      by_cases c1 : j < f
      · exact low_no hc (by omega) hlow c1 j2 j3
      · by_cases c2 : j ≤ r
        · rw [g3 j (by omega) c2] at j1; cases j1
        · by_cases c3 : j = r + 1
          · subst c3
            have hir : i ≤ r := by
              rcases Nat.lt_trichotomy i (r + 1) with q | q | q
              · omega
              · rw [q, j2] at i1; cases i1
              · rw [b4 i q, j3 i q, i1] at i2; cases i2
            have hiq : i < r - f := by
              rcases Nat.lt_or_ge i (r - f) with q | q
              · exact q
              · rw [b2 i q hir] at i2; cases i2
            have m1 := cnt_same (x := N) (y := M) (a := r + 1 + 1) (b := 256) (by omega) fun i hi _ => j3 i (by omega)
            have m2 := cnt_at1 j2
            have m3 := cnt_same (x := M) (y := A) (a := i + 1) (b := r + 1) (by omega) fun k h1 _ => i3 k (by omega)
            have m4 := cnt_at0 i1
            have m5 := cnt_one (x := A) (a := 0) (b := i + 1) (by omega) fun k _ hk => b1 k (by omega)
            have m6 := cnt_le M i
            rw [show cnt A 0 = 0 from rfl] at m5
            unfold card at hc
            omega
          · rcases Nat.lt_trichotomy i j with q | q | q
            · have := i3 j q
              rw [j2, b4 j (by omega), j1] at this; cases this
            · rw [q, j2] at i1; cases i1
            · rw [b4 i (by omega), j3 i q, i1] at i2; cases i2
theorem after_nil {N : Nat} (hN : N < 2 ^ 256) (h : afterO N = none) (M : Nat) (hM : M < 2 ^ 256) (hc : card M = card N) (hNM : N < M) : False := by
  obtain ⟨j, hj, j1, j2, j3⟩ := top_lt hN hM hNM
  unfold afterO at h
  cases hn : nextO N (-1) with
  | none => exact low_no hc (Nat.le_refl 256) (fun i hi => of_next_none hn i (by omega) hi) hj j2 j3
  | some f =>
    rw [hn] at h
    simp only at h
    obtain ⟨_, hf, hbit, hlow0⟩ := of_next_some hn
    have hlow : ∀ i, i < f → N.testBit i = false := fun i hi => hlow0 i (by omega) hi
    obtain ⟨g1, g2, g3, g4⟩ := run_of hN hbit
    generalize runE N 256 f = r at h g1 g2 g3 g4
    by_cases e : r = 255
    · by_cases c1 : j < f
      · exact low_no hc (by omega) hlow c1 j2 j3
      · rw [g3 j (by omega) (by omega)] at j1; cases j1
    · rw [if_neg e] at h; cases h
/-- The set after a place's set is the next place's. -/
theorem after_place {k p : Nat} (hp : p + 1 < ch 62 k) : afterO (unr 62 k p 0) = some (unr 62 k (p + 1) 0) := by
  obtain ⟨u1, u2, u3, u4⟩ := rk_of_unr (k := k) (p := p) (by omega)
  obtain ⟨v1, v2, v3, v4⟩ := rk_of_unr (k := k) (p := p + 1) hp
  generalize hU : unr 62 k p 0 = U at u1 u2 u3 u4
  generalize hV : unr 62 k (p + 1) 0 = V at v1 v2 v3 v4
  have hUV : U < V := lt_of_rk u1 v1 u2 v2 (by rw [u4, v4]) (by omega)
  cases h : afterO U with
  | none => exact (after_nil u1 h V v1 (by rw [u4, v4]) hUV).elim
  | some A =>
    obtain ⟨s1, s2, s3, s4⟩ := after_spec u1 h
    have hAV := s4 V v1 (by rw [u4, v4]) hUV
    have hV62 : V < 2 ^ 62 := Nat.lt_pow_two_of_testBit _ fun i hi => by
      cases hb : V.testBit i with
      | false => rfl
      | true => have := v2 i ((mem_iff v1).2 hb); omega
    have few : ∀ x ∈ mem A, x ≤ 61 := fun x hx => by
      rcases Nat.lt_or_ge x 62 with q | q
      · omega
      · have hb := (mem_iff s1).1 hx
        have h2 : 2 ^ 62 ≤ 2 ^ x := Nat.pow_le_pow_right (by decide) q
        rw [Nat.testBit_lt_two_pow (show A < 2 ^ x by omega)] at hb
        cases hb
    have hb := unr_of_rk s1 few
    have hr : rk (mem A) 0 = p + 1 := by
      rcases Nat.lt_trichotomy (rk (mem A) 0) (rk (mem U) 0) with q | q | q
      · have := lt_of_rk s1 u1 few u2 s3 q; omega
      · rw [s3, q, unr_of_rk u1 u2] at hb; omega
      · rcases Nat.lt_or_ge (p + 1) (rk (mem A) 0) with q2 | q2
        · have := lt_of_rk v1 s1 v2 few (by rw [s3, u4, v4]) (by omega); omega
        · omega
    rw [s3, u4, hr, hV] at hb
    rw [hb]
end Go.Proofs.YtjifajigigflkaaDoor
namespace Go.Proofs.YtjifajigigflkaaDoor
set_option linter.unusedSimpArgs false
set_option linter.unusedVariables false
open Go Go.RowKit

/-- Places, from i on, whose sets are R, no two of them with a common number. -/
def CovR (ls : List Nat) : Nat → Nat → List Nat → Prop
  | R, _, [] => R = 0
  | R, i, p :: ps => i ≤ p ∧ p < ls.length ∧ ls.getD p 0 ≠ 0 ∧ diff (ls.getD p 0) R = 0 ∧ CovR ls (diff R (ls.getD p 0)) (p + 1) ps
def intL (l : List Nat) : List Int := l.map fun (x : Nat) => (x : Int)
theorem CovR.mono {ls : List Nat} : ∀ {q : List Nat} {R i j : Nat}, CovR ls R j q → i ≤ j → CovR ls R i q
  | [], _, _, _, h, _ => h
  | p :: ps, R, i, j, ⟨h1, h2⟩, hij => ⟨Nat.le_trans hij h1, h2⟩
theorem CovR.zero {ls : List Nat} {i : Nat} : ∀ {q : List Nat}, CovR ls 0 i q → q = []
  | [], _ => rfl
  | p :: ps, ⟨_, _, h3, h4, _⟩ => by
    rw [diff_zero] at h4
    exact absurd h4 h3
theorem cov_sound {ls : List Nat} : ∀ (f R i : Nat) (q : List Nat), i + f = ls.length → cov ls f R i = some q → CovR ls R i q
  | 0, R, i, q, hf, h => by
    unfold cov at h
    split at h
    · rename_i h0; cases h; exact h0
    · cases h
  | f + 1, R, i, q, hf, h => by
    by_cases h0 : R = 0
    · subst h0
      rw [cov_zero] at h; cases h; rfl
    · by_cases hs : ls.getD i 0 = 0 ∨ diff (ls.getD i 0) R ≠ 0
      · rw [cov_skip h0 hs] at h
        exact (cov_sound f R (i + 1) q (by omega) h).mono (by omega)
      · cases hq : cov ls f (diff R (ls.getD i 0)) (i + 1) with
        | some q2 =>
          rw [cov_take h0 hs hq] at h
          cases h
          exact ⟨Nat.le_refl _, by omega, fun e => hs (.inl e), Classical.byContradiction fun e => hs (.inr e), cov_sound f _ (i + 1) q2 (by omega) hq⟩
        | none =>
          rw [cov_drop h0 hs hq] at h
          exact (cov_sound f R (i + 1) q (by omega) h).mono (by omega)
theorem cov_least {ls : List Nat} : ∀ (f R i : Nat) (q : List Nat), i + f = ls.length → CovR ls R i q → ∃ q2, cov ls f R i = some q2 ∧ lessL (intL q) (intL q2) = false
  | f, R, i, [], hf, h => by
    obtain rfl : R = 0 := h
    exact ⟨[], cov_zero ls f i, rfl⟩
  | 0, R, i, p :: ps, hf, ⟨h1, h2, _⟩ => by omega
  | f + 1, R, i, p :: ps, hf, h => by
    by_cases h0 : R = 0
    · subst h0
      cases h.zero
    · have ⟨h1, h2, h3, h4, h5⟩ := h
      by_cases hp : p = i
      · subst hp
        obtain ⟨q2, hq, hl⟩ := cov_least f _ (p + 1) ps (by omega) h5
        refine ⟨p :: q2, cov_take h0 (fun e => e.elim h3 (fun e => e h4)) hq, ?_⟩
        simp only [intL, List.map_cons, lessL, if_pos trivial]
        simpa [intL] using hl
      · have h' : CovR ls R (i + 1) (p :: ps) := ⟨by omega, h2, h3, h4, h5⟩
        by_cases hs : ls.getD i 0 = 0 ∨ diff (ls.getD i 0) R ≠ 0
        · obtain ⟨q2, hq, hl⟩ := cov_least f R (i + 1) (p :: ps) (by omega) h'
          exact ⟨q2, by rw [cov_skip h0 hs]; exact hq, hl⟩
        · cases hq : cov ls f (diff R (ls.getD i 0)) (i + 1) with
          | some q2 =>
            refine ⟨i :: q2, cov_take h0 hs hq, ?_⟩
            simp only [intL, List.map_cons, lessL]
            rw [if_neg (by omega), decide_eq_false_iff_not]
            omega
          | none =>
            obtain ⟨q2, hq2, hl⟩ := cov_least f R (i + 1) (p :: ps) (by omega) h'
            exact ⟨q2, by rw [cov_drop h0 hs hq]; exact hq2, hl⟩
/-- Parts by a number: those that are not empty are the cover. -/
theorem cov_parts {ls : List Nat} (hd : ∀ i j : Nat, i < j → j < ls.length → ls.getD i 0 &&& ls.getD j 0 = 0) : ∀ (f R i : Nat), i + f = ls.length → (∀ n, R.testBit n = true ↔ ∃ j, i ≤ j ∧ j < ls.length ∧ (ls.getD j 0).testBit n = true) →
    cov ls f R i = some ((List.range' i f).filter fun j => decide (ls.getD j 0 ≠ 0))
  | 0, R, i, hf, hR => by
    have h0 : R = 0 := by
      apply Nat.eq_of_testBit_eq; intro n
      rw [Nat.zero_testBit]
      cases hb : R.testBit n with
      | false => rfl
      | true => obtain ⟨j, h1, h2, _⟩ := (hR n).1 hb; omega
    subst h0
    rw [cov_zero]; rfl
  | f + 1, R, i, hf, hR => by
    rw [List.range'_succ, List.filter_cons]
    by_cases hz : ls.getD i 0 = 0
    · have hR' : ∀ n, R.testBit n = true ↔ ∃ j, i + 1 ≤ j ∧ j < ls.length ∧ (ls.getD j 0).testBit n = true := fun n => by
        rw [hR n]
        constructor
        · rintro ⟨j, h1, h2, h3⟩
          refine ⟨j, ?_, h2, h3⟩
          by_cases e : j = i
          · subst e; rw [hz, Nat.zero_testBit] at h3; cases h3
          · omega
        · rintro ⟨j, h1, h2, h3⟩; exact ⟨j, by omega, h2, h3⟩
      have ih := cov_parts hd f R (i + 1) (by omega) hR'
      rw [if_neg (by simp only [decide_eq_true_eq]; exact fun e => e hz)]
      by_cases h0 : R = 0
      · subst h0
        rw [cov_zero] at ih ⊢; exact ih
      · rw [cov_skip h0 (.inl hz)]; exact ih
    · have hin : ∀ n, (ls.getD i 0).testBit n = true → R.testBit n = true := fun n h => (hR n).2 ⟨i, Nat.le_refl _, by omega, h⟩
      have h0 : R ≠ 0 := fun e => by
        apply hz
        apply Nat.eq_of_testBit_eq; intro n
        rw [Nat.zero_testBit]
        cases hb : (ls.getD i 0).testBit n with
        | false => rfl
        | true => have := hin n hb; rw [e, Nat.zero_testBit] at this; cases this
      have hw : diff (ls.getD i 0) R = 0 := by
        apply Nat.eq_of_testBit_eq; intro n
        rw [testBit_diff, Nat.zero_testBit]
        cases hb : (ls.getD i 0).testBit n with
        | false => rfl
        | true => rw [hin n hb]; rfl
      have hR' : ∀ n, (diff R (ls.getD i 0)).testBit n = true ↔ ∃ j, i + 1 ≤ j ∧ j < ls.length ∧ (ls.getD j 0).testBit n = true := fun n => by
        rw [testBit_diff, Bool.and_eq_true, hR n]
        constructor
        · rintro ⟨⟨j, h1, h2, h3⟩, h4⟩
          refine ⟨j, ?_, h2, h3⟩
          by_cases e : j = i
          · subst e; rw [h3] at h4; cases h4
          · omega
        · rintro ⟨j, h1, h2, h3⟩
          refine ⟨⟨j, by omega, h2, h3⟩, ?_⟩
          have := congrArg (·.testBit n) (hd i j (by omega) h2)
          simp only [Nat.testBit_and, Nat.zero_testBit, h3, Bool.and_true] at this
          rw [this]; rfl
      rw [cov_take h0 (fun e => e.elim hz fun e => e hw) (cov_parts hd f _ (i + 1) (by omega) hR'), if_pos (by simp only [decide_eq_true_eq]; exact hz)]
end Go.Proofs.YtjifajigigflkaaDoor
namespace Go.Proofs.YtjifajigigflkaaDoor
set_option linter.unusedSimpArgs false
set_option linter.unusedVariables false
open Go Go.RowKit

/-- T meets the sets of a mask. -/
def Hits (ls : List Nat) (left T : Nat) : Prop := ∀ i, left.testBit i = true → ∃ n, (ls.getD i 0).testBit n = true ∧ T.testBit n = true
/-- No better set than H meets them. -/
def Best (ls : List Nat) (left H : Nat) : Prop := H < 2 ^ 256 ∧ Hits ls left H ∧ ∀ T, T < 2 ^ 256 → Hits ls left T → betB T H = false
theorem bet_iff (N M : Nat) : betB N M = true ↔ card N < card M ∨ card N = card M ∧ N < M := by
  unfold betB
  split
  · rename_i h; simp [h]
  · rename_i h; simp only [decide_eq_true_eq]; omega
theorem bet_no (N M : Nat) : betB N M = false ↔ card M < card N ∨ card M = card N ∧ M ≤ N := by
  rw [← Bool.not_eq_true, bet_iff]; omega
theorem Best.unique {ls : List Nat} {left H H' : Nat} (h : Best ls left H) (h' : Best ls left H') : H = H' := by
  have h1 := (bet_no _ _).1 (h.2.2 H' h'.1 h'.2.1)
  have h2 := (bet_no _ _).1 (h'.2.2 H h.1 h.2.1)
  omega
theorem bit_or_pow (H n i : Nat) : (H ||| 2 ^ n).testBit i = (H.testBit i || decide (n = i)) := by rw [Nat.testBit_or, Nat.testBit_two_pow]
theorem diff_pow_back {T n : Nat} (h : T.testBit n = true) : diff T (2 ^ n) ||| 2 ^ n = T := by
  apply Nat.eq_of_testBit_eq; intro i
  rw [bit_or_pow, testBit_diff, Nat.testBit_two_pow]
  by_cases e : n = i
  · subst e; simp [h]
  · simp [e]
theorem or_pow_has {H n : Nat} (h : H.testBit n = true) : H ||| 2 ^ n = H := by
  apply Nat.eq_of_testBit_eq; intro i
  rw [bit_or_pow]
  by_cases e : n = i
  · subst e; simp [h]
  · simp [e]
theorem or_pow_diff {H n : Nat} (h : H.testBit n = false) : diff (H ||| 2 ^ n) (2 ^ n) = H := by
  apply Nat.eq_of_testBit_eq; intro i
  rw [testBit_diff, bit_or_pow, Nat.testBit_two_pow]
  by_cases e : n = i
  · subst e; simp [h]
  · simp [e]
theorem or_pow_le {X Y n : Nat} (hX : X < 2 ^ 256) (hY : Y < 2 ^ 256) (h1 : X.testBit n = false) (h2 : Y.testBit n = false) (h : X ≤ Y) : X ||| 2 ^ n ≤ Y ||| 2 ^ n := by
  rcases Nat.lt_or_eq_of_le h with h | h
  · obtain ⟨j, hj, ha, hb, hc⟩ := top_lt hX hY h
    have hnj : n ≠ j := fun e => by rw [e, hb] at h2; cases h2
    refine Nat.le_of_lt (lt_of_bits (i := j) ?_ ?_ fun i hi => ?_)
    · rw [bit_or_pow, ha]; simp [hnj]
    · rw [bit_or_pow, hb]; rfl
    · rw [bit_or_pow, bit_or_pow, hc i hi]
  · rw [h]; exact Nat.le_refl _
theorem card_or_new {H n : Nat} (h : H.testBit n = false) (hn : n < 256) : card (H ||| 2 ^ n) = card H + 1 := by
  have h1 := card_wo (N := H ||| 2 ^ n) (j := n) (by rw [bit_or_pow]; simp) hn
  rw [or_pow_diff h] at h1
  exact h1.symm
/-- A number more keeps the order. -/
theorem bet_or {X T n : Nat} (hX2 : X < 2 ^ 256) (hT2 : T < 2 ^ 256) (hn : n < 256) (hT : T.testBit n = true) (h : betB (diff T (2 ^ n)) X = false) : betB T (X ||| 2 ^ n) = false := by
  have hc := card_wo hT hn
  rw [bet_no] at h ⊢
  by_cases hX : X.testBit n = true
  · rw [or_pow_has hX]
    exact .inl (by omega)
  · have hX' : X.testBit n = false := by simpa using hX
    have hD : (diff T (2 ^ n)).testBit n = false := by rw [testBit_diff, Nat.testBit_two_pow]; simp
    have e1 := card_or_new hX' hn
    have e2 : X ≤ diff T (2 ^ n) → X ||| 2 ^ n ≤ T := fun h => by
      have := or_pow_le hX2 (diff_lt hT2) hX' hD h
      rwa [diff_pow_back hT] at this
    rcases h with h | ⟨h, h'⟩
    · exact .inl (by omega)
    · exact .inr ⟨by omega, e2 h'⟩
theorem Hits.less {ls : List Nat} {left T n : Nat} (hN : ∀ N ∈ ls, N < 2 ^ 256) (hleft : left < 2 ^ ls.length) (h : Hits ls left T) : Hits ls (diff left (hold ls ls.length n)) (diff T (2 ^ n)) := fun i hi => by
  rw [testBit_diff, Bool.and_eq_true, hold_bit] at hi
  obtain ⟨m, h1, h2⟩ := h i hi.1
  have hil : i < ls.length := by
    rcases Nat.lt_or_ge i ls.length with h | h
    · exact h
    · have := Nat.testBit_lt_two_pow (Nat.lt_of_lt_of_le hleft (Nat.pow_le_pow_right (n := 2) (by decide) h))
      rw [this] at hi; exact absurd hi.1 (by decide)
  refine ⟨m, h1, ?_⟩
  rw [testBit_diff, Nat.testBit_two_pow, h2]
  by_cases e : n = m
  · subst e
    have := hi.2
    rw [h1] at this
    simp [hil] at this
  · simp [e]
theorem Hits.more {ls : List Nat} {left H n : Nat} (h : Hits ls (diff left (hold ls ls.length n)) H) : Hits ls left (H ||| 2 ^ n) := fun i hi => by
  cases hh : (hold ls ls.length n).testBit i with
  | true =>
    rw [hold_bit, Bool.and_eq_true] at hh
    exact ⟨n, hh.2, by rw [bit_or_pow]; simp⟩
  | false =>
    obtain ⟨m, h1, h2⟩ := h i (by rw [testBit_diff, hi, hh]; rfl)
    exact ⟨m, h1, by rw [bit_or_pow, h2]; rfl⟩
/-- What a search through numbers keeps is one of its sets, and none of them is better. -/
theorem foldl_best (h : Nat → Nat) : ∀ (l : List Nat) (acc : Option Nat), (l ≠ [] ∨ acc ≠ none) → ∃ H, l.foldl (hitS h) acc = some H ∧ ((∃ n ∈ l, H = h n ||| 2 ^ n) ∨ acc = some H) ∧ (∀ n ∈ l, betB (h n ||| 2 ^ n) H = false) ∧ ∀ t, acc = some t → betB t H = false
  | [], acc, hne => by
    cases acc with
    | none => simp at hne
    | some t => exact ⟨t, rfl, .inr rfl, (fun _ h => by cases h), (fun t' e => by cases e; rw [bet_no]; exact .inr ⟨rfl, Nat.le_refl _⟩)⟩
  | n :: l, acc, _ => by
    rw [List.foldl_cons]
    obtain ⟨H, h1, h2, h3, h4⟩ := foldl_best h l (hitS h acc n) (.inr (by unfold hitS; split <;> (try split) <;> simp))
    refine ⟨H, h1, ?_, ?_, ?_⟩
    · rcases h2 with ⟨m, hm, e⟩ | e
      · exact .inl ⟨m, by simp [hm], e⟩
      · unfold hitS at e
        split at e
        · exact .inl ⟨n, by simp, (Option.some.inj e).symm⟩
        · split at e
          · exact .inl ⟨n, by simp, (Option.some.inj e).symm⟩
          · exact .inr e
    · intro m hm
      rcases List.mem_cons.1 hm with rfl | hm
      · unfold hitS at h4
        split at h4
        · exact h4 _ rfl
        · split at h4
          · exact h4 _ rfl
          · rename_i t hb
            have h5 := (bet_no _ _).1 (h4 _ rfl)
            have h6 := (bet_no _ _).1 (Bool.eq_false_iff.2 hb)
            rw [bet_no]; omega
      · exact h3 m hm
    · intro t ht
      subst ht
      unfold hitS at h4
      simp only [] at h4
      split at h4
      · rename_i hb
        have h5 := (bet_no _ _).1 (h4 _ rfl)
        have h6 := (bet_iff _ _).1 hb
        rw [bet_no]; omega
      · exact h4 _ rfl
theorem hitV_step {ls : List Nat} (hls : ∀ N ∈ ls, N < 2 ^ 256) (hlen : ls.length ≤ 16) {left : Nat} (h0 : left ≠ 0) (hM : left < 2 ^ ls.length) :
    Lib.ctz 64 left < ls.length ∧ left.testBit (Lib.ctz 64 left) = true ∧ ls.getD (Lib.ctz 64 left) 0 < 2 ^ 256 ∧ hitV ls left = ((mem (ls.getD (Lib.ctz 64 left) 0)).foldl (hitS fun n => hitV ls (diff left (hold ls ls.length n))) none).getD 0 := by
  have h16 : 2 ^ ls.length ≤ 2 ^ 16 := Nat.pow_le_pow_right (by decide) hlen
  have hc := ctz_spec left h0 (by omega)
  have hl : Lib.ctz 64 left < ls.length := by
    rcases Nat.lt_or_ge (Lib.ctz 64 left) ls.length with h1 | h1
    · exact h1
    · have := Nat.testBit_lt_two_pow (Nat.lt_of_lt_of_le hM (Nat.pow_le_pow_right (n := 2) (by decide) h1))
      rw [hc.2.1] at this; cases this
  have hN : ls.getD (Lib.ctz 64 left) 0 < 2 ^ 256 := by
    rw [List.getD_eq_getElem?_getD, List.getElem?_eq_getElem hl]; exact hls _ (List.getElem_mem hl)
  refine ⟨hl, hc.2.1, hN, ?_⟩
  conv => lhs; unfold hitV
  simp only [hitF]
  rw [if_neg h0]
  congr 1
  apply foldl_congr'
  intro n hn
  have hlt := left_lt h0 (by omega) hl hN hn
  exact hitF_eq hls hlen _ _ hlt (by omega)
theorem hit_best {ls : List Nat} (hls : ∀ N ∈ ls, N < 2 ^ 256) (hnz : ∀ N ∈ ls, N ≠ 0) (hlen : ls.length ≤ 16) : ∀ (b left : Nat), left < b → left < 2 ^ ls.length → Best ls left (hitV ls left)
  | 0, _, h, _ => by omega
  | b + 1, left, hb, hM => by
    by_cases h0 : left = 0
    · subst h0
      rw [hitV_zero]
      refine ⟨by decide, (fun i hi => by rw [Nat.zero_testBit] at hi; cases hi), fun T _ _ => ?_⟩
      rw [bet_no]
      have : card 0 = 0 := by decide +kernel
      omega
    · obtain ⟨hl, hbit, hN, he⟩ := hitV_step hls hlen h0 hM
      have h16 : 2 ^ ls.length ≤ 2 ^ 16 := Nat.pow_le_pow_right (by decide) hlen
      have hne : mem (ls.getD (Lib.ctz 64 left) 0) ≠ [] := fun e => by
        have hz : ls.getD (Lib.ctz 64 left) 0 ≠ 0 := by
          rw [List.getD_eq_getElem?_getD, List.getElem?_eq_getElem hl]; exact hnz _ (List.getElem_mem hl)
        apply hz
        apply Nat.eq_of_testBit_eq; intro i
        rw [Nat.zero_testBit]
        cases hx : (ls.getD (Lib.ctz 64 left) 0).testBit i with
        | false => rfl
        | true => have := (mem_iff hN).2 hx; rw [e] at this; cases this
      obtain ⟨H, h1, h2, h3, _⟩ := foldl_best (fun n => hitV ls (diff left (hold ls ls.length n))) (mem (ls.getD (Lib.ctz 64 left) 0)) none (.inl hne)
      rw [he, h1]
      have ih : ∀ n ∈ mem (ls.getD (Lib.ctz 64 left) 0), Best ls (diff left (hold ls ls.length n)) (hitV ls (diff left (hold ls ls.length n))) := fun n hn => by
        have hlt := left_lt h0 (by omega) hl hN hn
        exact hit_best hls hnz hlen b _ (by omega) (by omega)
      rcases h2 with ⟨n, hn, e⟩ | e
      · have hn6 : n < 256 := by have := (memF_iff.1 hn).2.1; omega
        have hi := ih n hn
        refine ⟨?_, ?_, fun T hT hH => ?_⟩
        · show H < _
          rw [e]; exact Nat.or_lt_two_pow hi.1 (pow_lt256 hn6)
        · show Hits ls left H
          rw [e]; exact hi.2.1.more
        · show betB T H = false
          obtain ⟨m, m1, m2⟩ := hH _ hbit
          have hm := (mem_iff hN).2 m1
          have hm6 : m < 256 := by have := (memF_iff.1 hm).2.1; omega
          have k1 := (ih m hm).2.2 (diff T (2 ^ m)) (diff_lt hT) (hH.less hls hM)
          have k2 := (bet_no _ _).1 (bet_or (ih m hm).1 hT hm6 m2 k1)
          have k3 := (bet_no _ _).1 (h3 m hm)
          rw [bet_no]; omega
      · cases e
end Go.Proofs.YtjifajigigflkaaDoor
namespace Go.Proofs.YtjifajigigflkaaDoor
set_option linter.unusedSimpArgs false
set_option linter.unusedVariables false
open Go Go.RowKit
attribute [local go_sem] equalIn_words setV

/-- The union of the sets at some places; none if one is out of order, is no place, is empty or meets the ones before. -/
def covW (ls : List Nat) : Nat → Int → List Int → Option Nat
  | A, _, [] => some A
  | A, prev, p :: ps => if p < 0 ∨ (ls.length : Int) ≤ p ∨ p ≤ prev then none else if card (ls.getD p.toNat 0) = 0 then none else if eqS (A &&& ls.getD p.toNat 0) 0 = false then none else covW ls (A ||| ls.getD p.toNat 0) p ps
def cvB (ls : List Nat) (s : Nat) (zs : List Int) : Bool := match covW ls 0 (-1) zs with
  | none => false
  | some A => eqS A s
/-- What the loop keeps. -/
def CvS (w : World) (S A : Nat) (W : World) : Prop := Blk W w.heap.size (setA S) 25 ∧ Blk W (w.heap.size + 1) (setA A) 25 ∧ Below w.heap.size w W
theorem CvS.below {w W W' : World} {S A : Nat} (h : CvS w S A W) (hb : Below W.heap.size W W') : CvS w S A W' :=
  ⟨h.1.below hb h.1.lt, h.2.1.below hb h.2.1.lt, h.2.2.trans (hb.mono h.2.2.size)⟩
theorem CvS.old {w W W' : World} {S A : Nat} (h : CvS w S A W) (hC : (clOld W.drew).C W') : CvS w S A W' := h.below ((Below.refl _ W).drew.trans hC)
theorem CvS.put {w W : World} {S A : Nat} (h : CvS w S A W) (U : Nat) :
    CvS w S U ((((W.setCell ⟨w.heap.size + 1, 0, none⟩ (.int .u64 ↑(word U 0))).setCell ⟨w.heap.size + 1, 1, none⟩ (.int .u64 ↑(word U 1))).setCell ⟨w.heap.size + 1, 2, none⟩ (.int .u64 ↑(word U 2))).setCell ⟨w.heap.size + 1, 3, none⟩ (.int .u64 ↑(word U 3))) :=
  ⟨h.1.other4 (by omega) _ _ _ _, h.2.1.putS U, below_put4 h.2.2 (Nat.le_succ _) _ _ _ _⟩
theorem load_setp {W : World} {b o N : Nat} (h : ∀ j, j < 4 → W.cell? ⟨b, o + j, none⟩ = some (.int .u64 (word N j))) : (Instr.loadAt 25 (.pointer (some ⟨b, o, none⟩))).run Tryd.prog W = .ok (setV N) W := by
  have c0 : W.cell? ⟨b, o, none⟩ = _ := h 0 (by omega)
  have c1 := h 1 (by omega)
  have c2 := h 2 (by omega)
  have c3 := h 3 (by omega)
  simp [go_sem, c0, c1, c2, c3, setV]
theorem idx_setp (b o n cap j : Nat) (h : j < n) (w : World) : (Instr.indexAt 54 (.slice (some ⟨b, o, none⟩) n cap) (.int .i64 j)).run Tryd.prog w = .ok (.pointer (some ⟨b, o + j * 4, none⟩)) w := by
  simp [go_sem, Instr.indexAt, h]
theorem load_intp {w : World} {p : Addr} {x : Int} (h : w.cell? p = some (.int .i64 x)) : (Instr.loadAt 3 (.pointer (some p))).run Tryd.prog w = .ok (.int .i64 x) w := by
  simp [go_sem, h]
theorem run_len_sets (a : Option Addr) (n cap : Nat) (ty : TypeId) (cs : Array Bool) (w : World) : (builtin .len #[54] ty cs #[.slice a n cap]).run Tryd.prog w = .ok (.value (.int .i64 n)) w := by
  simp [go_sem, builtin, Builtin.len_, run_underlying Tryd.underlying54]
theorem lss_i (t : TypeId) (x y : Operand) (a b : Int) (p : Bool) (h : decide (a < b) = p) (w : World) :
    (do eqGuard .lss t x y (.int .i64 a) (.int .i64 b); binOp .lss t (.int .i64 a) (.int .i64 b) : Sem Value).run Tryd.prog w = .ok (.bool p) w := by
  subst h; simp [go_sem]
theorem geq_i (t : TypeId) (x y : Operand) (a b : Int) (p : Bool) (h : decide (b ≤ a) = p) (w : World) :
    (do eqGuard .geq t x y (.int .i64 a) (.int .i64 b); binOp .geq t (.int .i64 a) (.int .i64 b) : Sem Value).run Tryd.prog w = .ok (.bool p) w := by
  subst h; simp [go_sem]
theorem eql_i (t : TypeId) (x y : Operand) (a b : Int) (p : Bool) (h : decide (a = b) = p) (w : World) :
    (do eqGuard .eql t x y (.int .i64 a) (.int .i64 b); binOp .eql t (.int .i64 a) (.int .i64 b) : Sem Value).run Tryd.prog w = .ok (.bool p) w := by
  subst h
  by_cases e : a = b
  · subst e; simp [go_sem]
  · have : (a == b) = false := by rw [beq_eq_false_iff_ne]; exact e
    simp [go_sem, e, this]
theorem sub_i (t : TypeId) (x y : Operand) (k q : Nat) (h : k = q + 1) (hk : k ≤ 9223372036854775807) (w : World) :
    (do eqGuard .sub t x y (.int .i64 k) (.int .i64 1); binOp .sub t (.int .i64 k) (.int .i64 1) : Sem Value).run Tryd.prog w = .ok (.int .i64 q) w := by
  subst h
  have h1 : IntKind.i64.wrap (((q + 1 : Nat) : Int) - 1) = (q : Int) := by
    rw [show ((q + 1 : Nat) : Int) - 1 = (q : Int) by omega]
    exact IntWalk.i64_in _ (by omega)
  have h2 : IntKind.i64.wrap ((q : Int) + 1 - 1) = (q : Int) := by
    rw [show (q : Int) + 1 - 1 = (q : Int) by omega]
    exact IntWalk.i64_in _ (by omega)
  have h3 : IntKind.i64.wrap (q : Int) = (q : Int) := IntWalk.i64_in _ (by omega)
  simp [go_sem, h1, h2, h3]
theorem cell_int_at {W : World} {rb ro k : Nat} {zs : List Int} {x : Int} (h : Cells W (some ⟨rb, ro, none⟩) (zs.map (Value.int .i64))) (hk : zs[k]? = some x) : W.cell? ⟨rb, ro + k, none⟩ = some (.int .i64 x) := by
  have hk' : (zs.map (Value.int .i64))[k]? = some (.int .i64 x) := by rw [List.getElem?_map, hk]; rfl
  rcases h with h | ⟨b, o, ha, hc⟩
  · rw [h] at hk'; cases hk'
  · cases ha; exact hc k _ hk'
set_option maxRecDepth 100000 in
set_option maxHeartbeats 4000000 in
theorem covers_any (S : Nat) (a : Option Addr) (cap : Nat) (ls : List Nat) (a' : Option Addr) (cap' : Nat) (zs : List Int) (w : World) (hS : S < 2 ^ 256) (hls : ∀ N ∈ ls, N < 2 ^ 256) (hl : ls.length ≤ 9223372036854775807) (hs : SetCells w a ls) (ho : ∀ ad, a = some ad → ad.block < w.heap.size)
    (hz : Cells w a' (zs.map (Value.int .i64))) (hzl : zs.length ≤ 9223372036854775807) :
    Calls Tryd.prog 61 #[setV S, .slice a ls.length cap, .slice a' zs.length cap'] w fun e w' => e = .returned (.bool (cvB ls S zs)) ∧ Below w.heap.size w w' := by
  have HS := Lib.hid hs
  have HO := Lib.hid ho
  have HZ0 := Lib.hid hz
  have HLS := Lib.hid hls
  have HSL := Lib.hid hS
  obtain ⟨n, hn⟩ : ∃ n, n = ls.length := ⟨_, rfl⟩
  obtain ⟨m, hm⟩ : ∃ m, m = zs.length := ⟨_, rfl⟩
  rw [← hn] at hl ⊢
  rw [← hm] at hzl ⊢
  have HN := Lib.hid hn
  have HM := Lib.hid hm
  clear hs ho hz hls hS hn hm
  go_enter Tryd.func61, Tryd.ntmps61
  simp only [setV]
  go_wp2_with fail
  go_loopw [8] (fun ti wr => ∃ (k A : Nat) (prev : Int), k ≤ m ∧ ti = .int .i64 k ∧ Hid (covW ls 0 (-1) zs = covW ls A prev (zs.drop k)) ∧ Hid (k = 0 ∧ prev = -1 ∨ ∃ q, k = q + 1 ∧ zs[q]? = some prev) ∧ Hid (A < 2 ^ 256) ∧ CvS w S A wr) (fun ti _ => m - (intOf ti).toNat)
  case atStart => exact ⟨0, 0, -1, by omega, rfl, rfl, .inl ⟨rfl, rfl⟩, show 0 < 2 ^ 256 by decide, (Blk.newW _ _ _).alloc _, Blk.newS1 _ _ _, below_new2 _ _ _⟩
  case round =>
    obtain ⟨k, A, prev, hk, rfl, HCV, HPR, HAL, hF⟩ := hrel
    have F := Lib.hid hF
    clear hF
    by_cases hlt : k < m
    · obtain ⟨p, hp⟩ : ∃ p, zs[k]? = some p := ⟨_, List.getElem?_eq_getElem (by rw [← HM.out]; exact hlt)⟩
      have HP := Lib.hid hp
      have HDR : Hid (zs.drop k = p :: zs.drop (k + 1)) := by
        have hkl : k < zs.length := by rw [← HM.out]; exact hlt
        rw [Hid, ← List.getElem_cons_drop hkl]
        rw [List.getElem?_eq_getElem hkl] at hp
        rw [Option.some.inj hp]
      obtain ⟨rb, ro, ha'⟩ : ∃ rb ro, a' = some ⟨rb, ro, none⟩ := by
        rcases HZ0.out with h | ⟨b, o, ha, _⟩
        · have : zs = [] := by simpa using h
          rw [this] at hp; cases hp
        · exact ⟨b, o, ha⟩
      subst ha'
      have hcp := cell_int_at (HZ0.out.below F.out.2.2) hp
      clear hp
      go_upto_region 6 with (fail)
      have HBAD : Hid (p < 0 ∨ (n : Int) ≤ p ∨ p ≤ prev → cvB ls S zs = false) := fun h => by
        unfold cvB
        rw [HCV.out, HDR.out]
        unfold covW
        rw [if_pos (by rw [← HN.out]; exact h)]
      by_cases h1 : p < 0
      · have HB : Hid (cvB ls S zs = false) := HBAD.out (.inl h1)
        have q1 : decide (p < 0) = true := decide_eq_true h1
        have Q1 := Lib.hid q1
        clear q1
        refine wp_region_old 37 67 (by kernel_rfl) (by kernel_rfl) (by rfl) ?_
        simp only [List.take_succ_cons, List.take_zero, List.drop_succ_cons, List.drop_zero, List.drop_nil]
        refine chain_move (.int .i64 p) _ (fun _ _ => Below.refl _ _) rfl rfl (by kernel_rfl) (by kernel_rfl) rfl ?_
        refine chain_bin (.bool true) _ _ _ _ _ (.int .i64 p) (.int .i64 0) (fun _ _ => Below.refl _ _) rfl rfl (by kernel_rfl) (by kernel_rfl) rfl rfl (fun w1 => lss_i _ _ _ _ _ _ Q1.out w1) ?_
        refine chain_move (.bool true) _ (fun _ _ => Below.refl _ _) rfl rfl (by kernel_rfl) (by kernel_rfl) rfl ?_
        refine chain_skip rfl (by kernel_rfl) ?_
        refine chain_skip rfl (by kernel_rfl) ?_
        refine chain_skip rfl (by kernel_rfl) ?_
        refine chain_skip rfl (by kernel_rfl) ?_
        refine chain_pick (.bool true) _ _ _ true (fun _ _ => Below.refl _ _) rfl rfl (by kernel_rfl) (by kernel_rfl) rfl rfl ?_
        refine chain_move (.bool true) _ (fun _ _ => Below.refl _ _) rfl rfl (by kernel_rfl) (by kernel_rfl) rfl ?_
        refine chain_skip rfl (by kernel_rfl) ?_
        refine chain_skip rfl (by kernel_rfl) ?_
        refine chain_skip rfl (by kernel_rfl) ?_
        refine chain_skipU rfl (by kernel_rfl) ?_
        refine chain_skipU rfl (by kernel_rfl) ?_
        refine chain_skipU rfl (by kernel_rfl) ?_
        refine chain_skipU rfl (by kernel_rfl) ?_
        refine chain_skipU rfl (by kernel_rfl) ?_
        refine chain_skipU rfl (by kernel_rfl) ?_
        refine chain_skipU rfl (by kernel_rfl) ?_
        refine chain_skip rfl (by kernel_rfl) ?_
        refine chain_pick (.bool true) _ _ _ true (fun _ _ => Below.refl _ _) rfl rfl (by kernel_rfl) (by kernel_rfl) rfl rfl ?_
        refine chain_move (.bool true) _ (fun _ _ => Below.refl _ _) rfl rfl (by kernel_rfl) (by kernel_rfl) rfl ?_
        refine chain_skip rfl (by kernel_rfl) ?_
        refine chain_skip rfl (by kernel_rfl) ?_
        refine chain_skip rfl (by kernel_rfl) ?_
        refine chain_skip rfl (by kernel_rfl) ?_
        refine chain_skip rfl (by kernel_rfl) ?_
        refine chain_skip rfl (by kernel_rfl) ?_
        refine chain_pick (.bool true) _ _ _ true (fun _ _ => Below.refl _ _) rfl rfl (by kernel_rfl) (by kernel_rfl) rfl rfl ?_
        refine chain_move (.bool true) _ (fun _ _ => Below.refl _ _) rfl rfl (by kernel_rfl) (by kernel_rfl) rfl ?_
        refine chain_skip rfl (by kernel_rfl) ?_
        refine chain_skip rfl (by kernel_rfl) ?_
        refine chain_skip rfl (by kernel_rfl) ?_
        refine chain_skip rfl (by kernel_rfl) ?_
        refine chain_skip rfl (by kernel_rfl) ?_
        refine chain_skip rfl (by kernel_rfl) ?_
        refine chain_pick (.bool true) _ _ _ true (fun _ _ => Below.refl _ _) rfl rfl (by kernel_rfl) (by kernel_rfl) rfl rfl ?_
        refine chain_end (by rfl) ?_
        intro xs w6 hCw6 hrew6
        simp only [layE, List.foldr_cons, List.foldr_nil, List.set_cons_succ, List.set_cons_zero]
        have HE := Lib.hid (F.out.2.2.trans (((Below.refl _ wr).drew.trans hCw6).mono F.out.2.2.size))
        clear hCw6 hrew6
        go_wp2_with fail
        go_ret
        exact ⟨by rw [HB.out]; rfl, HE.out⟩
      · by_cases h2 : (n : Int) ≤ p
        · have HB : Hid (cvB ls S zs = false) := HBAD.out (.inr (.inl h2))
          have Q1 : Hid (decide (p < 0) = false) := decide_eq_false h1
          have Q2 : Hid (decide ((n : Int) ≤ p) = true) := decide_eq_true h2
          refine wp_region_old 37 67 (by kernel_rfl) (by kernel_rfl) (by rfl) ?_
          simp only [List.take_succ_cons, List.take_zero, List.drop_succ_cons, List.drop_zero, List.drop_nil]
          refine chain_move (.int .i64 p) _ (fun _ _ => Below.refl _ _) rfl rfl (by kernel_rfl) (by kernel_rfl) rfl ?_
          refine chain_bin (.bool false) _ _ _ _ _ (.int .i64 p) (.int .i64 0) (fun _ _ => Below.refl _ _) rfl rfl (by kernel_rfl) (by kernel_rfl) rfl rfl (fun w1 => lss_i _ _ _ _ _ _ Q1.out w1) ?_
          refine chain_move (.bool false) _ (fun _ _ => Below.refl _ _) rfl rfl (by kernel_rfl) (by kernel_rfl) rfl ?_
          refine chain_move (.int .i64 p) _ (fun _ _ => Below.refl _ _) rfl rfl (by kernel_rfl) (by kernel_rfl) rfl ?_
          refine chain_move (.slice a n cap) _ (fun _ _ => Below.refl _ _) rfl rfl (by kernel_rfl) (by kernel_rfl) rfl ?_
          refine chain_len (.int .i64 n) _ _ (.slice a n cap) _ (fun _ _ => Below.refl _ _) rfl rfl rfl rfl rfl (by kernel_rfl) (by kernel_rfl) rfl (fun ty cs w => run_len_sets _ _ _ ty cs w) ?_
          refine chain_bin (.bool true) _ _ _ _ _ (.int .i64 p) (.int .i64 n) (fun _ _ => Below.refl _ _) rfl rfl (by kernel_rfl) (by kernel_rfl) rfl rfl (fun w1 => geq_i _ _ _ _ _ _ Q2.out w1) ?_
          refine chain_pick (.bool true) _ _ _ false (fun _ _ => Below.refl _ _) rfl rfl (by kernel_rfl) (by kernel_rfl) rfl rfl ?_
          refine chain_move (.bool true) _ (fun _ _ => Below.refl _ _) rfl rfl (by kernel_rfl) (by kernel_rfl) rfl ?_
          refine chain_skip rfl (by kernel_rfl) ?_
          refine chain_skip rfl (by kernel_rfl) ?_
          refine chain_skip rfl (by kernel_rfl) ?_
          refine chain_skipU rfl (by kernel_rfl) ?_
          refine chain_skipU rfl (by kernel_rfl) ?_
          refine chain_skipU rfl (by kernel_rfl) ?_
          refine chain_skipU rfl (by kernel_rfl) ?_
          refine chain_skipU rfl (by kernel_rfl) ?_
          refine chain_skipU rfl (by kernel_rfl) ?_
          refine chain_skipU rfl (by kernel_rfl) ?_
          refine chain_skip rfl (by kernel_rfl) ?_
          refine chain_pick (.bool true) _ _ _ true (fun _ _ => Below.refl _ _) rfl rfl (by kernel_rfl) (by kernel_rfl) rfl rfl ?_
          refine chain_move (.bool true) _ (fun _ _ => Below.refl _ _) rfl rfl (by kernel_rfl) (by kernel_rfl) rfl ?_
          refine chain_skip rfl (by kernel_rfl) ?_
          refine chain_skip rfl (by kernel_rfl) ?_
          refine chain_skip rfl (by kernel_rfl) ?_
          refine chain_skip rfl (by kernel_rfl) ?_
          refine chain_skip rfl (by kernel_rfl) ?_
          refine chain_skip rfl (by kernel_rfl) ?_
          refine chain_pick (.bool true) _ _ _ true (fun _ _ => Below.refl _ _) rfl rfl (by kernel_rfl) (by kernel_rfl) rfl rfl ?_
          refine chain_move (.bool true) _ (fun _ _ => Below.refl _ _) rfl rfl (by kernel_rfl) (by kernel_rfl) rfl ?_
          refine chain_skip rfl (by kernel_rfl) ?_
          refine chain_skip rfl (by kernel_rfl) ?_
          refine chain_skip rfl (by kernel_rfl) ?_
          refine chain_skip rfl (by kernel_rfl) ?_
          refine chain_skip rfl (by kernel_rfl) ?_
          refine chain_skip rfl (by kernel_rfl) ?_
          refine chain_pick (.bool true) _ _ _ true (fun _ _ => Below.refl _ _) rfl rfl (by kernel_rfl) (by kernel_rfl) rfl rfl ?_
          refine chain_end (by rfl) ?_
          intro xs w6 hCw6 hrew6
          simp only [layE, List.foldr_cons, List.foldr_nil, List.set_cons_succ, List.set_cons_zero]
          have HE := Lib.hid (F.out.2.2.trans (((Below.refl _ wr).drew.trans hCw6).mono F.out.2.2.size))
          clear hCw6 hrew6
          go_wp2_with fail
          go_ret
          exact ⟨by rw [HB.out]; rfl, HE.out⟩
        · obtain ⟨j, rfl⟩ := Int.eq_ofNat_of_zero_le (show 0 ≤ p by omega)
          have hjn : j < n := by omega
          have Q1 : Hid (decide ((j : Int) < 0) = false) := decide_eq_false (by omega)
          have Q2 : Hid (decide ((n : Int) ≤ (j : Int)) = false) := decide_eq_false h2
          obtain ⟨lb, lo, ha, _⟩ := HS.out.at (show j < ls.length by rw [← HN.out]; exact hjn)
          subst ha
          obtain ⟨M, hM⟩ : ∃ M, M = ls.getD j 0 := ⟨_, rfl⟩
          have HMM := Lib.hid hM
          have HML : Hid (M < 2 ^ 256) := by
            rw [Hid, hM, List.getD_eq_getElem?_getD, List.getElem?_eq_getElem (show j < ls.length by rw [← HN.out]; exact hjn)]
            exact HLS.out _ (List.getElem_mem _)
          have HLD : Hid (∀ W, CvS w S A W → (Instr.loadAt 25 (.pointer (some ⟨lb, lo + j * 4, none⟩))).run Tryd.prog W = .ok (setV M) W) := fun W h => by
            obtain ⟨lb', lo', he, hc⟩ := (HS.out.below HO.out h.2.2).at (show j < ls.length by rw [← HN.out]; exact hjn)
            simp only [Option.some.injEq, Addr.mk.injEq, and_true] at he
            obtain ⟨rfl, rfl⟩ := he
            rw [hM, List.getD_eq_getElem?_getD, List.getElem?_eq_getElem (show j < ls.length by rw [← HN.out]; exact hjn)]
            exact load_setp hc
          obtain ⟨c, hc⟩ : ∃ c, c = card M := ⟨_, rfl⟩
          have HSz : Hid (∀ w, Calls Tryd.prog 37 #[setV M] w fun e w' => e = .returned (.int .i64 c) ∧ Below w.heap.size w w') := fun w => by rw [hc]; exact size_any M w
          have HC := Lib.hid hc
          obtain ⟨z, hz⟩ : ∃ z, z = eqS (A &&& M) 0 := ⟨_, rfl⟩
          have HMe : Hid (∀ w, Calls Tryd.prog 41 #[setV A, setV M] w fun e w' => e = .returned (.bool (!z)) ∧ Below w.heap.size w w') := fun w => by rw [hz]; exact meets_any A M w
          have HZ := Lib.hid hz
          clear hM hc hz h1 h2
          rcases HPR.out with ⟨hk0, hpv⟩ | ⟨q, hkq, hq⟩
          · have Q3 : Hid (decide ((0 : Int) < (k : Int)) = false) := decide_eq_false (by omega)
            have HOK : Hid (¬ ((j : Int) < 0 ∨ (ls.length : Int) ≤ (j : Int) ∨ (j : Int) ≤ prev)) := by rw [Hid, ← HN.out]; omega
            have HK0 := Lib.hid hk0
            clear hk0 hpv
            by_cases h5 : c = 0
            · have HB : Hid (cvB ls S zs = false) := by
                unfold Hid cvB
                rw [HCV.out, HDR.out]
                unfold covW
                rw [if_neg HOK.out, if_pos (by rw [Int.toNat_natCast, ← HMM.out, ← HC.out]; exact h5)]
              have Q5 : Hid (decide ((c : Int) = 0) = true) := decide_eq_true (by omega)
              clear h5
              refine wp_region_old 37 67 (by kernel_rfl) (by kernel_rfl) (by rfl) ?_
              simp only [List.take_succ_cons, List.take_zero, List.drop_succ_cons, List.drop_zero, List.drop_nil]
              refine chain_move (.int .i64 (j : Int)) _ (fun _ _ => Below.refl _ _) rfl rfl (by kernel_rfl) (by kernel_rfl) rfl ?_
              refine chain_bin (.bool false) _ _ _ _ _ (.int .i64 (j : Int)) (.int .i64 0) (fun _ _ => Below.refl _ _) rfl rfl (by kernel_rfl) (by kernel_rfl) rfl rfl (fun w1 => lss_i _ _ _ _ _ _ Q1.out w1) ?_
              refine chain_move (.bool false) _ (fun _ _ => Below.refl _ _) rfl rfl (by kernel_rfl) (by kernel_rfl) rfl ?_
              refine chain_move (.int .i64 (j : Int)) _ (fun _ _ => Below.refl _ _) rfl rfl (by kernel_rfl) (by kernel_rfl) rfl ?_
              refine chain_move (.slice (some ⟨lb, lo, none⟩) n cap) _ (fun _ _ => Below.refl _ _) rfl rfl (by kernel_rfl) (by kernel_rfl) rfl ?_
              refine chain_len (.int .i64 n) _ _ (.slice (some ⟨lb, lo, none⟩) n cap) _ (fun _ _ => Below.refl _ _) rfl rfl rfl rfl rfl (by kernel_rfl) (by kernel_rfl) rfl (fun ty cs w => run_len_sets _ _ _ ty cs w) ?_
              refine chain_bin (.bool false) _ _ _ _ _ (.int .i64 (j : Int)) (.int .i64 n) (fun _ _ => Below.refl _ _) rfl rfl (by kernel_rfl) (by kernel_rfl) rfl rfl (fun w1 => geq_i _ _ _ _ _ _ Q2.out w1) ?_
              refine chain_pick (.bool false) _ _ _ false (fun _ _ => Below.refl _ _) rfl rfl (by kernel_rfl) (by kernel_rfl) rfl rfl ?_
              refine chain_move (.bool false) _ (fun _ _ => Below.refl _ _) rfl rfl (by kernel_rfl) (by kernel_rfl) rfl ?_
              refine chain_move (.int .i64 k) _ (fun _ _ => Below.refl _ _) rfl rfl (by kernel_rfl) (by kernel_rfl) rfl ?_
              refine chain_bin (.bool false) _ _ _ _ _ (.int .i64 k) (.int .i64 0) (fun _ _ => Below.refl _ _) rfl rfl (by kernel_rfl) (by kernel_rfl) rfl rfl (fun w1 => gtr_int _ _ _ _ _ _ Q3.out w1) ?_
              refine chain_move (.bool false) _ (fun _ _ => Below.refl _ _) rfl rfl (by kernel_rfl) (by kernel_rfl) rfl ?_
              refine chain_skip rfl (by kernel_rfl) ?_
              refine chain_skip rfl (by kernel_rfl) ?_
              refine chain_skip rfl (by kernel_rfl) ?_
              refine chain_skip rfl (by kernel_rfl) ?_
              refine chain_skip rfl (by kernel_rfl) ?_
              refine chain_skip rfl (by kernel_rfl) ?_
              refine chain_skip rfl (by kernel_rfl) ?_
              refine chain_pick (.bool false) _ _ _ false (fun _ _ => Below.refl _ _) rfl rfl (by kernel_rfl) (by kernel_rfl) rfl rfl ?_
              refine chain_pick (.bool false) _ _ _ false (fun _ _ => Below.refl _ _) rfl rfl (by kernel_rfl) (by kernel_rfl) rfl rfl ?_
              refine chain_move (.bool false) _ (fun _ _ => Below.refl _ _) rfl rfl (by kernel_rfl) (by kernel_rfl) rfl ?_
              refine chain_move (.slice (some ⟨lb, lo, none⟩) n cap) _ (fun _ _ => Below.refl _ _) rfl rfl (by kernel_rfl) (by kernel_rfl) rfl ?_
              refine chain_move (.int .i64 (j : Int)) _ (fun _ _ => Below.refl _ _) rfl rfl (by kernel_rfl) (by kernel_rfl) rfl ?_
              refine chain_idx (.pointer (some ⟨lb, lo + j * 4, none⟩)) _ _ _ (.slice (some ⟨lb, lo, none⟩) n cap) (.int .i64 (j : Int)) (fun _ _ => Below.refl _ _) rfl rfl (by kernel_rfl) (by kernel_rfl) rfl rfl (fun w1 => idx_setp _ _ _ _ _ hjn w1) ?_
              refine chain_load (setV M) _ _ _ (fun _ _ => Below.refl _ _) rfl rfl (by kernel_rfl) (by kernel_rfl) rfl (fun w1 hC => HLD.out w1 (F.out.old hC)) ?_
              refine chain_call (.int .i64 c) 37 [setV M] _ _ (enters_of Tryd.func37 (by kernel_rfl) rfl) rfl rfl rfl (by kernel_rfl) (by kernel_rfl) rfl rfl (fun w1 _ => HSz.out w1) ?_
              refine chain_bin (.bool true) _ _ _ _ _ (.int .i64 c) (.int .i64 0) (fun _ _ => Below.refl _ _) rfl rfl (by kernel_rfl) (by kernel_rfl) rfl rfl (fun w1 => eql_i _ _ _ _ _ _ Q5.out w1) ?_
              refine chain_pick (.bool true) _ _ _ false (fun _ _ => Below.refl _ _) rfl rfl (by kernel_rfl) (by kernel_rfl) rfl rfl ?_
              refine chain_move (.bool true) _ (fun _ _ => Below.refl _ _) rfl rfl (by kernel_rfl) (by kernel_rfl) rfl ?_
              refine chain_skip rfl (by kernel_rfl) ?_
              refine chain_skip rfl (by kernel_rfl) ?_
              refine chain_skip rfl (by kernel_rfl) ?_
              refine chain_skip rfl (by kernel_rfl) ?_
              refine chain_skip rfl (by kernel_rfl) ?_
              refine chain_skip rfl (by kernel_rfl) ?_
              refine chain_pick (.bool true) _ _ _ true (fun _ _ => Below.refl _ _) rfl rfl (by kernel_rfl) (by kernel_rfl) rfl rfl ?_
              refine chain_end (by rfl) ?_
              intro xs w6 hCw6 hrew6
              simp only [layE, List.foldr_cons, List.foldr_nil, List.set_cons_succ, List.set_cons_zero]
              have HE := Lib.hid (F.out.2.2.trans (((Below.refl _ wr).drew.trans hCw6).mono F.out.2.2.size))
              clear hCw6 hrew6
              go_wp2_with fail
              go_ret
              exact ⟨by rw [HB.out]; rfl, HE.out⟩
            · have Q5 : Hid (decide ((c : Int) = 0) = false) := decide_eq_false (by omega)
              cases z with
              | false =>
                have HB : Hid (cvB ls S zs = false) := by
                  unfold Hid cvB
                  rw [HCV.out, HDR.out]
                  unfold covW
                  rw [if_neg HOK.out, if_neg (by rw [Int.toNat_natCast, ← HMM.out, ← HC.out]; exact h5), if_pos (by rw [Int.toNat_natCast, ← HMM.out]; exact HZ.out.symm)]
                clear h5
                refine wp_region_old 37 67 (by kernel_rfl) (by kernel_rfl) (by rfl) ?_
                simp only [List.take_succ_cons, List.take_zero, List.drop_succ_cons, List.drop_zero, List.drop_nil]
                refine chain_move (.int .i64 (j : Int)) _ (fun _ _ => Below.refl _ _) rfl rfl (by kernel_rfl) (by kernel_rfl) rfl ?_
                refine chain_bin (.bool false) _ _ _ _ _ (.int .i64 (j : Int)) (.int .i64 0) (fun _ _ => Below.refl _ _) rfl rfl (by kernel_rfl) (by kernel_rfl) rfl rfl (fun w1 => lss_i _ _ _ _ _ _ Q1.out w1) ?_
                refine chain_move (.bool false) _ (fun _ _ => Below.refl _ _) rfl rfl (by kernel_rfl) (by kernel_rfl) rfl ?_
                refine chain_move (.int .i64 (j : Int)) _ (fun _ _ => Below.refl _ _) rfl rfl (by kernel_rfl) (by kernel_rfl) rfl ?_
                refine chain_move (.slice (some ⟨lb, lo, none⟩) n cap) _ (fun _ _ => Below.refl _ _) rfl rfl (by kernel_rfl) (by kernel_rfl) rfl ?_
                refine chain_len (.int .i64 n) _ _ (.slice (some ⟨lb, lo, none⟩) n cap) _ (fun _ _ => Below.refl _ _) rfl rfl rfl rfl rfl (by kernel_rfl) (by kernel_rfl) rfl (fun ty cs w => run_len_sets _ _ _ ty cs w) ?_
                refine chain_bin (.bool false) _ _ _ _ _ (.int .i64 (j : Int)) (.int .i64 n) (fun _ _ => Below.refl _ _) rfl rfl (by kernel_rfl) (by kernel_rfl) rfl rfl (fun w1 => geq_i _ _ _ _ _ _ Q2.out w1) ?_
                refine chain_pick (.bool false) _ _ _ false (fun _ _ => Below.refl _ _) rfl rfl (by kernel_rfl) (by kernel_rfl) rfl rfl ?_
                refine chain_move (.bool false) _ (fun _ _ => Below.refl _ _) rfl rfl (by kernel_rfl) (by kernel_rfl) rfl ?_
                refine chain_move (.int .i64 k) _ (fun _ _ => Below.refl _ _) rfl rfl (by kernel_rfl) (by kernel_rfl) rfl ?_
                refine chain_bin (.bool false) _ _ _ _ _ (.int .i64 k) (.int .i64 0) (fun _ _ => Below.refl _ _) rfl rfl (by kernel_rfl) (by kernel_rfl) rfl rfl (fun w1 => gtr_int _ _ _ _ _ _ Q3.out w1) ?_
                refine chain_move (.bool false) _ (fun _ _ => Below.refl _ _) rfl rfl (by kernel_rfl) (by kernel_rfl) rfl ?_
                refine chain_skip rfl (by kernel_rfl) ?_
                refine chain_skip rfl (by kernel_rfl) ?_
                refine chain_skip rfl (by kernel_rfl) ?_
                refine chain_skip rfl (by kernel_rfl) ?_
                refine chain_skip rfl (by kernel_rfl) ?_
                refine chain_skip rfl (by kernel_rfl) ?_
                refine chain_skip rfl (by kernel_rfl) ?_
                refine chain_pick (.bool false) _ _ _ false (fun _ _ => Below.refl _ _) rfl rfl (by kernel_rfl) (by kernel_rfl) rfl rfl ?_
                refine chain_pick (.bool false) _ _ _ false (fun _ _ => Below.refl _ _) rfl rfl (by kernel_rfl) (by kernel_rfl) rfl rfl ?_
                refine chain_move (.bool false) _ (fun _ _ => Below.refl _ _) rfl rfl (by kernel_rfl) (by kernel_rfl) rfl ?_
                refine chain_move (.slice (some ⟨lb, lo, none⟩) n cap) _ (fun _ _ => Below.refl _ _) rfl rfl (by kernel_rfl) (by kernel_rfl) rfl ?_
                refine chain_move (.int .i64 (j : Int)) _ (fun _ _ => Below.refl _ _) rfl rfl (by kernel_rfl) (by kernel_rfl) rfl ?_
                refine chain_idx (.pointer (some ⟨lb, lo + j * 4, none⟩)) _ _ _ (.slice (some ⟨lb, lo, none⟩) n cap) (.int .i64 (j : Int)) (fun _ _ => Below.refl _ _) rfl rfl (by kernel_rfl) (by kernel_rfl) rfl rfl (fun w1 => idx_setp _ _ _ _ _ hjn w1) ?_
                refine chain_load (setV M) _ _ _ (fun _ _ => Below.refl _ _) rfl rfl (by kernel_rfl) (by kernel_rfl) rfl (fun w1 hC => HLD.out w1 (F.out.old hC)) ?_
                refine chain_call (.int .i64 c) 37 [setV M] _ _ (enters_of Tryd.func37 (by kernel_rfl) rfl) rfl rfl rfl (by kernel_rfl) (by kernel_rfl) rfl rfl (fun w1 _ => HSz.out w1) ?_
                refine chain_bin (.bool false) _ _ _ _ _ (.int .i64 c) (.int .i64 0) (fun _ _ => Below.refl _ _) rfl rfl (by kernel_rfl) (by kernel_rfl) rfl rfl (fun w1 => eql_i _ _ _ _ _ _ Q5.out w1) ?_
                refine chain_pick (.bool false) _ _ _ false (fun _ _ => Below.refl _ _) rfl rfl (by kernel_rfl) (by kernel_rfl) rfl rfl ?_
                refine chain_move (.bool false) _ (fun _ _ => Below.refl _ _) rfl rfl (by kernel_rfl) (by kernel_rfl) rfl ?_
                refine chain_load (setV A) _ _ _ (fun _ _ => Below.refl _ _) rfl rfl (by kernel_rfl) (by kernel_rfl) rfl (fun w1 hC => load_set (F.out.old hC).2.1) ?_
                refine chain_move (.slice (some ⟨lb, lo, none⟩) n cap) _ (fun _ _ => Below.refl _ _) rfl rfl (by kernel_rfl) (by kernel_rfl) rfl ?_
                refine chain_move (.int .i64 (j : Int)) _ (fun _ _ => Below.refl _ _) rfl rfl (by kernel_rfl) (by kernel_rfl) rfl ?_
                refine chain_idx (.pointer (some ⟨lb, lo + j * 4, none⟩)) _ _ _ (.slice (some ⟨lb, lo, none⟩) n cap) (.int .i64 (j : Int)) (fun _ _ => Below.refl _ _) rfl rfl (by kernel_rfl) (by kernel_rfl) rfl rfl (fun w1 => idx_setp _ _ _ _ _ hjn w1) ?_
                refine chain_load (setV M) _ _ _ (fun _ _ => Below.refl _ _) rfl rfl (by kernel_rfl) (by kernel_rfl) rfl (fun w1 hC => HLD.out w1 (F.out.old hC)) ?_
                refine chain_call (.bool true) 41 [setV A, setV M] _ _ (enters_of Tryd.func41 (by kernel_rfl) rfl) rfl rfl rfl (by kernel_rfl) (by kernel_rfl) rfl rfl (fun w1 _ => HMe.out w1) ?_
                refine chain_pick (.bool true) _ _ _ false (fun _ _ => Below.refl _ _) rfl rfl (by kernel_rfl) (by kernel_rfl) rfl rfl ?_
                refine chain_end (by rfl) ?_
                intro xs w6 hCw6 hrew6
                simp only [layE, List.foldr_cons, List.foldr_nil, List.set_cons_succ, List.set_cons_zero]
                have HE := Lib.hid (F.out.2.2.trans (((Below.refl _ wr).drew.trans hCw6).mono F.out.2.2.size))
                clear hCw6 hrew6
                go_wp2_with fail
                go_ret
                exact ⟨by rw [HB.out]; rfl, HE.out⟩
              | true =>
                have HNX : Hid (covW ls 0 (-1) zs = covW ls (A ||| M) j (zs.drop (k + 1))) := by
                  rw [Hid, HCV.out, HDR.out]
                  conv => lhs; unfold covW
                  rw [if_neg HOK.out, if_neg (by rw [Int.toNat_natCast, ← HMM.out, ← HC.out]; exact h5), if_neg (by rw [Int.toNat_natCast, ← HMM.out, ← HZ.out]; decide), Int.toNat_natCast, ← HMM.out]
                clear h5
                refine wp_region_old 37 67 (by kernel_rfl) (by kernel_rfl) (by rfl) ?_
                simp only [List.take_succ_cons, List.take_zero, List.drop_succ_cons, List.drop_zero, List.drop_nil]
                refine chain_move (.int .i64 (j : Int)) _ (fun _ _ => Below.refl _ _) rfl rfl (by kernel_rfl) (by kernel_rfl) rfl ?_
                refine chain_bin (.bool false) _ _ _ _ _ (.int .i64 (j : Int)) (.int .i64 0) (fun _ _ => Below.refl _ _) rfl rfl (by kernel_rfl) (by kernel_rfl) rfl rfl (fun w1 => lss_i _ _ _ _ _ _ Q1.out w1) ?_
                refine chain_move (.bool false) _ (fun _ _ => Below.refl _ _) rfl rfl (by kernel_rfl) (by kernel_rfl) rfl ?_
                refine chain_move (.int .i64 (j : Int)) _ (fun _ _ => Below.refl _ _) rfl rfl (by kernel_rfl) (by kernel_rfl) rfl ?_
                refine chain_move (.slice (some ⟨lb, lo, none⟩) n cap) _ (fun _ _ => Below.refl _ _) rfl rfl (by kernel_rfl) (by kernel_rfl) rfl ?_
                refine chain_len (.int .i64 n) _ _ (.slice (some ⟨lb, lo, none⟩) n cap) _ (fun _ _ => Below.refl _ _) rfl rfl rfl rfl rfl (by kernel_rfl) (by kernel_rfl) rfl (fun ty cs w => run_len_sets _ _ _ ty cs w) ?_
                refine chain_bin (.bool false) _ _ _ _ _ (.int .i64 (j : Int)) (.int .i64 n) (fun _ _ => Below.refl _ _) rfl rfl (by kernel_rfl) (by kernel_rfl) rfl rfl (fun w1 => geq_i _ _ _ _ _ _ Q2.out w1) ?_
                refine chain_pick (.bool false) _ _ _ false (fun _ _ => Below.refl _ _) rfl rfl (by kernel_rfl) (by kernel_rfl) rfl rfl ?_
                refine chain_move (.bool false) _ (fun _ _ => Below.refl _ _) rfl rfl (by kernel_rfl) (by kernel_rfl) rfl ?_
                refine chain_move (.int .i64 k) _ (fun _ _ => Below.refl _ _) rfl rfl (by kernel_rfl) (by kernel_rfl) rfl ?_
                refine chain_bin (.bool false) _ _ _ _ _ (.int .i64 k) (.int .i64 0) (fun _ _ => Below.refl _ _) rfl rfl (by kernel_rfl) (by kernel_rfl) rfl rfl (fun w1 => gtr_int _ _ _ _ _ _ Q3.out w1) ?_
                refine chain_move (.bool false) _ (fun _ _ => Below.refl _ _) rfl rfl (by kernel_rfl) (by kernel_rfl) rfl ?_
                refine chain_skip rfl (by kernel_rfl) ?_
                refine chain_skip rfl (by kernel_rfl) ?_
                refine chain_skip rfl (by kernel_rfl) ?_
                refine chain_skip rfl (by kernel_rfl) ?_
                refine chain_skip rfl (by kernel_rfl) ?_
                refine chain_skip rfl (by kernel_rfl) ?_
                refine chain_skip rfl (by kernel_rfl) ?_
                refine chain_pick (.bool false) _ _ _ false (fun _ _ => Below.refl _ _) rfl rfl (by kernel_rfl) (by kernel_rfl) rfl rfl ?_
                refine chain_pick (.bool false) _ _ _ false (fun _ _ => Below.refl _ _) rfl rfl (by kernel_rfl) (by kernel_rfl) rfl rfl ?_
                refine chain_move (.bool false) _ (fun _ _ => Below.refl _ _) rfl rfl (by kernel_rfl) (by kernel_rfl) rfl ?_
                refine chain_move (.slice (some ⟨lb, lo, none⟩) n cap) _ (fun _ _ => Below.refl _ _) rfl rfl (by kernel_rfl) (by kernel_rfl) rfl ?_
                refine chain_move (.int .i64 (j : Int)) _ (fun _ _ => Below.refl _ _) rfl rfl (by kernel_rfl) (by kernel_rfl) rfl ?_
                refine chain_idx (.pointer (some ⟨lb, lo + j * 4, none⟩)) _ _ _ (.slice (some ⟨lb, lo, none⟩) n cap) (.int .i64 (j : Int)) (fun _ _ => Below.refl _ _) rfl rfl (by kernel_rfl) (by kernel_rfl) rfl rfl (fun w1 => idx_setp _ _ _ _ _ hjn w1) ?_
                refine chain_load (setV M) _ _ _ (fun _ _ => Below.refl _ _) rfl rfl (by kernel_rfl) (by kernel_rfl) rfl (fun w1 hC => HLD.out w1 (F.out.old hC)) ?_
                refine chain_call (.int .i64 c) 37 [setV M] _ _ (enters_of Tryd.func37 (by kernel_rfl) rfl) rfl rfl rfl (by kernel_rfl) (by kernel_rfl) rfl rfl (fun w1 _ => HSz.out w1) ?_
                refine chain_bin (.bool false) _ _ _ _ _ (.int .i64 c) (.int .i64 0) (fun _ _ => Below.refl _ _) rfl rfl (by kernel_rfl) (by kernel_rfl) rfl rfl (fun w1 => eql_i _ _ _ _ _ _ Q5.out w1) ?_
                refine chain_pick (.bool false) _ _ _ false (fun _ _ => Below.refl _ _) rfl rfl (by kernel_rfl) (by kernel_rfl) rfl rfl ?_
                refine chain_move (.bool false) _ (fun _ _ => Below.refl _ _) rfl rfl (by kernel_rfl) (by kernel_rfl) rfl ?_
                refine chain_load (setV A) _ _ _ (fun _ _ => Below.refl _ _) rfl rfl (by kernel_rfl) (by kernel_rfl) rfl (fun w1 hC => load_set (F.out.old hC).2.1) ?_
                refine chain_move (.slice (some ⟨lb, lo, none⟩) n cap) _ (fun _ _ => Below.refl _ _) rfl rfl (by kernel_rfl) (by kernel_rfl) rfl ?_
                refine chain_move (.int .i64 (j : Int)) _ (fun _ _ => Below.refl _ _) rfl rfl (by kernel_rfl) (by kernel_rfl) rfl ?_
                refine chain_idx (.pointer (some ⟨lb, lo + j * 4, none⟩)) _ _ _ (.slice (some ⟨lb, lo, none⟩) n cap) (.int .i64 (j : Int)) (fun _ _ => Below.refl _ _) rfl rfl (by kernel_rfl) (by kernel_rfl) rfl rfl (fun w1 => idx_setp _ _ _ _ _ hjn w1) ?_
                refine chain_load (setV M) _ _ _ (fun _ _ => Below.refl _ _) rfl rfl (by kernel_rfl) (by kernel_rfl) rfl (fun w1 hC => HLD.out w1 (F.out.old hC)) ?_
                refine chain_call (.bool false) 41 [setV A, setV M] _ _ (enters_of Tryd.func41 (by kernel_rfl) rfl) rfl rfl rfl (by kernel_rfl) (by kernel_rfl) rfl rfl (fun w1 _ => HMe.out w1) ?_
                refine chain_pick (.bool false) _ _ _ false (fun _ _ => Below.refl _ _) rfl rfl (by kernel_rfl) (by kernel_rfl) rfl rfl ?_
                refine chain_end (by rfl) ?_
                intro xs w6 hCw6 hrew6
                simp only [layE, List.foldr_cons, List.foldr_nil, List.set_cons_succ, List.set_cons_zero]
                have F6 := Lib.hid (F.out.old hCw6)
                clear hCw6 hrew6 F hcp
                go_upto_region 8 with (fail)
                have HUn : Hid (∀ w, Calls Tryd.prog 31 #[setV A, setV M] w fun e w' => e = .returned (setV (A ||| M)) ∧ Below w.heap.size w w') := fun w => union_any A M w
                obtain ⟨U, hU⟩ : ∃ U, U = A ||| M := ⟨_, rfl⟩
                rw [← hU] at HUn
                have HU := Lib.hid hU
                clear hU
                refine wp_region_old 6 67 (by kernel_rfl) (by kernel_rfl) (by rfl) ?_
                simp only [List.take_succ_cons, List.take_zero, List.drop_succ_cons, List.drop_zero, List.drop_nil]
                refine chain_load (setV A) _ _ _ (fun _ _ => Below.refl _ _) rfl rfl (by kernel_rfl) (by kernel_rfl) rfl (fun w1 hC => load_set (F6.out.old hC).2.1) ?_
                refine chain_move (.slice (some ⟨lb, lo, none⟩) n cap) _ (fun _ _ => Below.refl _ _) rfl rfl (by kernel_rfl) (by kernel_rfl) rfl ?_
                refine chain_move (.int .i64 (j : Int)) _ (fun _ _ => Below.refl _ _) rfl rfl (by kernel_rfl) (by kernel_rfl) rfl ?_
                refine chain_idx (.pointer (some ⟨lb, lo + j * 4, none⟩)) _ _ _ (.slice (some ⟨lb, lo, none⟩) n cap) (.int .i64 (j : Int)) (fun _ _ => Below.refl _ _) rfl rfl (by kernel_rfl) (by kernel_rfl) rfl rfl (fun w1 => idx_setp _ _ _ _ _ hjn w1) ?_
                refine chain_load (setV M) _ _ _ (fun _ _ => Below.refl _ _) rfl rfl (by kernel_rfl) (by kernel_rfl) rfl (fun w1 hC => HLD.out w1 (F6.out.old hC)) ?_
                refine chain_call (setV U) 31 [setV A, setV M] _ _ (enters_of Tryd.func31 (by kernel_rfl) rfl) rfl rfl rfl (by kernel_rfl) (by kernel_rfl) rfl rfl (fun w1 _ => HUn.out w1) ?_
                refine chain_end (by rfl) ?_
                intro xs w8 hCw8 hrew8
                simp only [layE, List.foldr_cons, List.foldr_nil, List.set_cons_succ, List.set_cons_zero]
                have F8 := Lib.hid (F6.out.old hCw8)
                clear hCw8 hrew8 F6
                obtain ⟨u0, u1, u2, u3, uf⟩ := F8.out.2.1.set4
                simp only [setV]
                go_wp2_with fail
                exact ⟨⟨k + 1, U, j, by omega, by simp, by rw [HU.out]; exact HNX.out, .inr ⟨k, rfl, HP.out⟩, by rw [Hid, HU.out]; exact Nat.or_lt_two_pow HAL.out HML.out, F8.out.put U⟩, by simp [intOf]; omega⟩
          · have HK := Lib.hid hkq
            have HQ := Lib.hid hq
            have Q3 : Hid (decide ((0 : Int) < (k : Int)) = true) := decide_eq_true (by omega)
            have hqm : q < m := by omega
            clear hkq hq
            by_cases h4 : (j : Int) ≤ prev
            · have HB : Hid (cvB ls S zs = false) := HBAD.out (.inr (.inr h4))
              have Q4 : Hid (decide ((j : Int) ≤ prev) = true) := decide_eq_true h4
              clear h4
              refine wp_region_old 37 67 (by kernel_rfl) (by kernel_rfl) (by rfl) ?_
              simp only [List.take_succ_cons, List.take_zero, List.drop_succ_cons, List.drop_zero, List.drop_nil]
              refine chain_move (.int .i64 (j : Int)) _ (fun _ _ => Below.refl _ _) rfl rfl (by kernel_rfl) (by kernel_rfl) rfl ?_
              refine chain_bin (.bool false) _ _ _ _ _ (.int .i64 (j : Int)) (.int .i64 0) (fun _ _ => Below.refl _ _) rfl rfl (by kernel_rfl) (by kernel_rfl) rfl rfl (fun w1 => lss_i _ _ _ _ _ _ Q1.out w1) ?_
              refine chain_move (.bool false) _ (fun _ _ => Below.refl _ _) rfl rfl (by kernel_rfl) (by kernel_rfl) rfl ?_
              refine chain_move (.int .i64 (j : Int)) _ (fun _ _ => Below.refl _ _) rfl rfl (by kernel_rfl) (by kernel_rfl) rfl ?_
              refine chain_move (.slice (some ⟨lb, lo, none⟩) n cap) _ (fun _ _ => Below.refl _ _) rfl rfl (by kernel_rfl) (by kernel_rfl) rfl ?_
              refine chain_len (.int .i64 n) _ _ (.slice (some ⟨lb, lo, none⟩) n cap) _ (fun _ _ => Below.refl _ _) rfl rfl rfl rfl rfl (by kernel_rfl) (by kernel_rfl) rfl (fun ty cs w => run_len_sets _ _ _ ty cs w) ?_
              refine chain_bin (.bool false) _ _ _ _ _ (.int .i64 (j : Int)) (.int .i64 n) (fun _ _ => Below.refl _ _) rfl rfl (by kernel_rfl) (by kernel_rfl) rfl rfl (fun w1 => geq_i _ _ _ _ _ _ Q2.out w1) ?_
              refine chain_pick (.bool false) _ _ _ false (fun _ _ => Below.refl _ _) rfl rfl (by kernel_rfl) (by kernel_rfl) rfl rfl ?_
              refine chain_move (.bool false) _ (fun _ _ => Below.refl _ _) rfl rfl (by kernel_rfl) (by kernel_rfl) rfl ?_
              refine chain_move (.int .i64 k) _ (fun _ _ => Below.refl _ _) rfl rfl (by kernel_rfl) (by kernel_rfl) rfl ?_
              refine chain_bin (.bool true) _ _ _ _ _ (.int .i64 k) (.int .i64 0) (fun _ _ => Below.refl _ _) rfl rfl (by kernel_rfl) (by kernel_rfl) rfl rfl (fun w1 => gtr_int _ _ _ _ _ _ Q3.out w1) ?_
              refine chain_move (.bool true) _ (fun _ _ => Below.refl _ _) rfl rfl (by kernel_rfl) (by kernel_rfl) rfl ?_
              refine chain_move (.slice (some ⟨rb, ro, none⟩) m cap') _ (fun _ _ => Below.refl _ _) rfl rfl (by kernel_rfl) (by kernel_rfl) rfl ?_
              refine chain_move (.int .i64 k) _ (fun _ _ => Below.refl _ _) rfl rfl (by kernel_rfl) (by kernel_rfl) rfl ?_
              refine chain_bin (.int .i64 q) _ _ _ _ _ (.int .i64 k) (.int .i64 1) (fun _ _ => Below.refl _ _) rfl rfl (by kernel_rfl) (by kernel_rfl) rfl rfl (fun w1 => sub_i _ _ _ k q HK.out (by omega) w1) ?_
              refine chain_idx (.pointer (some ⟨rb, ro + q, none⟩)) _ _ _ (.slice (some ⟨rb, ro, none⟩) m cap') (.int .i64 q) (fun _ _ => Below.refl _ _) rfl rfl (by kernel_rfl) (by kernel_rfl) rfl rfl (fun w1 => idx_int _ _ _ _ _ hqm w1) ?_
              refine chain_load (.int .i64 prev) _ _ _ (fun _ _ => Below.refl _ _) rfl rfl (by kernel_rfl) (by kernel_rfl) rfl (fun w1 hC => load_intp (cell_int_at (HZ0.out.below (F.out.old hC).2.2) HQ.out)) ?_
              refine chain_move (.int .i64 (j : Int)) _ (fun _ _ => Below.refl _ _) rfl rfl (by kernel_rfl) (by kernel_rfl) rfl ?_
              refine chain_bin (.bool true) _ _ _ _ _ (.int .i64 prev) (.int .i64 (j : Int)) (fun _ _ => Below.refl _ _) rfl rfl (by kernel_rfl) (by kernel_rfl) rfl rfl (fun w1 => geq_i _ _ _ _ _ _ Q4.out w1) ?_
              refine chain_pick (.bool true) _ _ _ true (fun _ _ => Below.refl _ _) rfl rfl (by kernel_rfl) (by kernel_rfl) rfl rfl ?_
              refine chain_pick (.bool true) _ _ _ false (fun _ _ => Below.refl _ _) rfl rfl (by kernel_rfl) (by kernel_rfl) rfl rfl ?_
              refine chain_move (.bool true) _ (fun _ _ => Below.refl _ _) rfl rfl (by kernel_rfl) (by kernel_rfl) rfl ?_
              refine chain_skip rfl (by kernel_rfl) ?_
              refine chain_skip rfl (by kernel_rfl) ?_
              refine chain_skip rfl (by kernel_rfl) ?_
              refine chain_skip rfl (by kernel_rfl) ?_
              refine chain_skip rfl (by kernel_rfl) ?_
              refine chain_skip rfl (by kernel_rfl) ?_
              refine chain_pick (.bool true) _ _ _ true (fun _ _ => Below.refl _ _) rfl rfl (by kernel_rfl) (by kernel_rfl) rfl rfl ?_
              refine chain_move (.bool true) _ (fun _ _ => Below.refl _ _) rfl rfl (by kernel_rfl) (by kernel_rfl) rfl ?_
              refine chain_skip rfl (by kernel_rfl) ?_
              refine chain_skip rfl (by kernel_rfl) ?_
              refine chain_skip rfl (by kernel_rfl) ?_
              refine chain_skip rfl (by kernel_rfl) ?_
              refine chain_skip rfl (by kernel_rfl) ?_
              refine chain_skip rfl (by kernel_rfl) ?_
              refine chain_pick (.bool true) _ _ _ true (fun _ _ => Below.refl _ _) rfl rfl (by kernel_rfl) (by kernel_rfl) rfl rfl ?_
              refine chain_end (by rfl) ?_
              intro xs w6 hCw6 hrew6
              simp only [layE, List.foldr_cons, List.foldr_nil, List.set_cons_succ, List.set_cons_zero]
              have HE := Lib.hid (F.out.2.2.trans (((Below.refl _ wr).drew.trans hCw6).mono F.out.2.2.size))
              clear hCw6 hrew6
              go_wp2_with fail
              go_ret
              exact ⟨by rw [HB.out]; rfl, HE.out⟩
            · have Q4 : Hid (decide ((j : Int) ≤ prev) = false) := decide_eq_false h4
              have HOK : Hid (¬ ((j : Int) < 0 ∨ (ls.length : Int) ≤ (j : Int) ∨ (j : Int) ≤ prev)) := by rw [Hid, ← HN.out]; omega
              clear h4
              by_cases h5 : c = 0
              · have HB : Hid (cvB ls S zs = false) := by
                  unfold Hid cvB
                  rw [HCV.out, HDR.out]
                  unfold covW
                  rw [if_neg HOK.out, if_pos (by rw [Int.toNat_natCast, ← HMM.out, ← HC.out]; exact h5)]
                have Q5 : Hid (decide ((c : Int) = 0) = true) := decide_eq_true (by omega)
                clear h5
                refine wp_region_old 37 67 (by kernel_rfl) (by kernel_rfl) (by rfl) ?_
                simp only [List.take_succ_cons, List.take_zero, List.drop_succ_cons, List.drop_zero, List.drop_nil]
                refine chain_move (.int .i64 (j : Int)) _ (fun _ _ => Below.refl _ _) rfl rfl (by kernel_rfl) (by kernel_rfl) rfl ?_
                refine chain_bin (.bool false) _ _ _ _ _ (.int .i64 (j : Int)) (.int .i64 0) (fun _ _ => Below.refl _ _) rfl rfl (by kernel_rfl) (by kernel_rfl) rfl rfl (fun w1 => lss_i _ _ _ _ _ _ Q1.out w1) ?_
                refine chain_move (.bool false) _ (fun _ _ => Below.refl _ _) rfl rfl (by kernel_rfl) (by kernel_rfl) rfl ?_
                refine chain_move (.int .i64 (j : Int)) _ (fun _ _ => Below.refl _ _) rfl rfl (by kernel_rfl) (by kernel_rfl) rfl ?_
                refine chain_move (.slice (some ⟨lb, lo, none⟩) n cap) _ (fun _ _ => Below.refl _ _) rfl rfl (by kernel_rfl) (by kernel_rfl) rfl ?_
                refine chain_len (.int .i64 n) _ _ (.slice (some ⟨lb, lo, none⟩) n cap) _ (fun _ _ => Below.refl _ _) rfl rfl rfl rfl rfl (by kernel_rfl) (by kernel_rfl) rfl (fun ty cs w => run_len_sets _ _ _ ty cs w) ?_
                refine chain_bin (.bool false) _ _ _ _ _ (.int .i64 (j : Int)) (.int .i64 n) (fun _ _ => Below.refl _ _) rfl rfl (by kernel_rfl) (by kernel_rfl) rfl rfl (fun w1 => geq_i _ _ _ _ _ _ Q2.out w1) ?_
                refine chain_pick (.bool false) _ _ _ false (fun _ _ => Below.refl _ _) rfl rfl (by kernel_rfl) (by kernel_rfl) rfl rfl ?_
                refine chain_move (.bool false) _ (fun _ _ => Below.refl _ _) rfl rfl (by kernel_rfl) (by kernel_rfl) rfl ?_
                refine chain_move (.int .i64 k) _ (fun _ _ => Below.refl _ _) rfl rfl (by kernel_rfl) (by kernel_rfl) rfl ?_
                refine chain_bin (.bool true) _ _ _ _ _ (.int .i64 k) (.int .i64 0) (fun _ _ => Below.refl _ _) rfl rfl (by kernel_rfl) (by kernel_rfl) rfl rfl (fun w1 => gtr_int _ _ _ _ _ _ Q3.out w1) ?_
                refine chain_move (.bool true) _ (fun _ _ => Below.refl _ _) rfl rfl (by kernel_rfl) (by kernel_rfl) rfl ?_
                refine chain_move (.slice (some ⟨rb, ro, none⟩) m cap') _ (fun _ _ => Below.refl _ _) rfl rfl (by kernel_rfl) (by kernel_rfl) rfl ?_
                refine chain_move (.int .i64 k) _ (fun _ _ => Below.refl _ _) rfl rfl (by kernel_rfl) (by kernel_rfl) rfl ?_
                refine chain_bin (.int .i64 q) _ _ _ _ _ (.int .i64 k) (.int .i64 1) (fun _ _ => Below.refl _ _) rfl rfl (by kernel_rfl) (by kernel_rfl) rfl rfl (fun w1 => sub_i _ _ _ k q HK.out (by omega) w1) ?_
                refine chain_idx (.pointer (some ⟨rb, ro + q, none⟩)) _ _ _ (.slice (some ⟨rb, ro, none⟩) m cap') (.int .i64 q) (fun _ _ => Below.refl _ _) rfl rfl (by kernel_rfl) (by kernel_rfl) rfl rfl (fun w1 => idx_int _ _ _ _ _ hqm w1) ?_
                refine chain_load (.int .i64 prev) _ _ _ (fun _ _ => Below.refl _ _) rfl rfl (by kernel_rfl) (by kernel_rfl) rfl (fun w1 hC => load_intp (cell_int_at (HZ0.out.below (F.out.old hC).2.2) HQ.out)) ?_
                refine chain_move (.int .i64 (j : Int)) _ (fun _ _ => Below.refl _ _) rfl rfl (by kernel_rfl) (by kernel_rfl) rfl ?_
                refine chain_bin (.bool false) _ _ _ _ _ (.int .i64 prev) (.int .i64 (j : Int)) (fun _ _ => Below.refl _ _) rfl rfl (by kernel_rfl) (by kernel_rfl) rfl rfl (fun w1 => geq_i _ _ _ _ _ _ Q4.out w1) ?_
                refine chain_pick (.bool false) _ _ _ true (fun _ _ => Below.refl _ _) rfl rfl (by kernel_rfl) (by kernel_rfl) rfl rfl ?_
                refine chain_pick (.bool false) _ _ _ false (fun _ _ => Below.refl _ _) rfl rfl (by kernel_rfl) (by kernel_rfl) rfl rfl ?_
                refine chain_move (.bool false) _ (fun _ _ => Below.refl _ _) rfl rfl (by kernel_rfl) (by kernel_rfl) rfl ?_
                refine chain_move (.slice (some ⟨lb, lo, none⟩) n cap) _ (fun _ _ => Below.refl _ _) rfl rfl (by kernel_rfl) (by kernel_rfl) rfl ?_
                refine chain_move (.int .i64 (j : Int)) _ (fun _ _ => Below.refl _ _) rfl rfl (by kernel_rfl) (by kernel_rfl) rfl ?_
                refine chain_idx (.pointer (some ⟨lb, lo + j * 4, none⟩)) _ _ _ (.slice (some ⟨lb, lo, none⟩) n cap) (.int .i64 (j : Int)) (fun _ _ => Below.refl _ _) rfl rfl (by kernel_rfl) (by kernel_rfl) rfl rfl (fun w1 => idx_setp _ _ _ _ _ hjn w1) ?_
                refine chain_load (setV M) _ _ _ (fun _ _ => Below.refl _ _) rfl rfl (by kernel_rfl) (by kernel_rfl) rfl (fun w1 hC => HLD.out w1 (F.out.old hC)) ?_
                refine chain_call (.int .i64 c) 37 [setV M] _ _ (enters_of Tryd.func37 (by kernel_rfl) rfl) rfl rfl rfl (by kernel_rfl) (by kernel_rfl) rfl rfl (fun w1 _ => HSz.out w1) ?_
                refine chain_bin (.bool true) _ _ _ _ _ (.int .i64 c) (.int .i64 0) (fun _ _ => Below.refl _ _) rfl rfl (by kernel_rfl) (by kernel_rfl) rfl rfl (fun w1 => eql_i _ _ _ _ _ _ Q5.out w1) ?_
                refine chain_pick (.bool true) _ _ _ false (fun _ _ => Below.refl _ _) rfl rfl (by kernel_rfl) (by kernel_rfl) rfl rfl ?_
                refine chain_move (.bool true) _ (fun _ _ => Below.refl _ _) rfl rfl (by kernel_rfl) (by kernel_rfl) rfl ?_
                refine chain_skip rfl (by kernel_rfl) ?_
                refine chain_skip rfl (by kernel_rfl) ?_
                refine chain_skip rfl (by kernel_rfl) ?_
                refine chain_skip rfl (by kernel_rfl) ?_
                refine chain_skip rfl (by kernel_rfl) ?_
                refine chain_skip rfl (by kernel_rfl) ?_
                refine chain_pick (.bool true) _ _ _ true (fun _ _ => Below.refl _ _) rfl rfl (by kernel_rfl) (by kernel_rfl) rfl rfl ?_
                refine chain_end (by rfl) ?_
                intro xs w6 hCw6 hrew6
                simp only [layE, List.foldr_cons, List.foldr_nil, List.set_cons_succ, List.set_cons_zero]
                have HE := Lib.hid (F.out.2.2.trans (((Below.refl _ wr).drew.trans hCw6).mono F.out.2.2.size))
                clear hCw6 hrew6
                go_wp2_with fail
                go_ret
                exact ⟨by rw [HB.out]; rfl, HE.out⟩
              · have Q5 : Hid (decide ((c : Int) = 0) = false) := decide_eq_false (by omega)
                cases z with
                | false =>
                  have HB : Hid (cvB ls S zs = false) := by
                    unfold Hid cvB
                    rw [HCV.out, HDR.out]
                    unfold covW
                    rw [if_neg HOK.out, if_neg (by rw [Int.toNat_natCast, ← HMM.out, ← HC.out]; exact h5), if_pos (by rw [Int.toNat_natCast, ← HMM.out]; exact HZ.out.symm)]
                  clear h5
                  refine wp_region_old 37 67 (by kernel_rfl) (by kernel_rfl) (by rfl) ?_
                  simp only [List.take_succ_cons, List.take_zero, List.drop_succ_cons, List.drop_zero, List.drop_nil]
                  refine chain_move (.int .i64 (j : Int)) _ (fun _ _ => Below.refl _ _) rfl rfl (by kernel_rfl) (by kernel_rfl) rfl ?_
                  refine chain_bin (.bool false) _ _ _ _ _ (.int .i64 (j : Int)) (.int .i64 0) (fun _ _ => Below.refl _ _) rfl rfl (by kernel_rfl) (by kernel_rfl) rfl rfl (fun w1 => lss_i _ _ _ _ _ _ Q1.out w1) ?_
                  refine chain_move (.bool false) _ (fun _ _ => Below.refl _ _) rfl rfl (by kernel_rfl) (by kernel_rfl) rfl ?_
                  refine chain_move (.int .i64 (j : Int)) _ (fun _ _ => Below.refl _ _) rfl rfl (by kernel_rfl) (by kernel_rfl) rfl ?_
                  refine chain_move (.slice (some ⟨lb, lo, none⟩) n cap) _ (fun _ _ => Below.refl _ _) rfl rfl (by kernel_rfl) (by kernel_rfl) rfl ?_
                  refine chain_len (.int .i64 n) _ _ (.slice (some ⟨lb, lo, none⟩) n cap) _ (fun _ _ => Below.refl _ _) rfl rfl rfl rfl rfl (by kernel_rfl) (by kernel_rfl) rfl (fun ty cs w => run_len_sets _ _ _ ty cs w) ?_
                  refine chain_bin (.bool false) _ _ _ _ _ (.int .i64 (j : Int)) (.int .i64 n) (fun _ _ => Below.refl _ _) rfl rfl (by kernel_rfl) (by kernel_rfl) rfl rfl (fun w1 => geq_i _ _ _ _ _ _ Q2.out w1) ?_
                  refine chain_pick (.bool false) _ _ _ false (fun _ _ => Below.refl _ _) rfl rfl (by kernel_rfl) (by kernel_rfl) rfl rfl ?_
                  refine chain_move (.bool false) _ (fun _ _ => Below.refl _ _) rfl rfl (by kernel_rfl) (by kernel_rfl) rfl ?_
                  refine chain_move (.int .i64 k) _ (fun _ _ => Below.refl _ _) rfl rfl (by kernel_rfl) (by kernel_rfl) rfl ?_
                  refine chain_bin (.bool true) _ _ _ _ _ (.int .i64 k) (.int .i64 0) (fun _ _ => Below.refl _ _) rfl rfl (by kernel_rfl) (by kernel_rfl) rfl rfl (fun w1 => gtr_int _ _ _ _ _ _ Q3.out w1) ?_
                  refine chain_move (.bool true) _ (fun _ _ => Below.refl _ _) rfl rfl (by kernel_rfl) (by kernel_rfl) rfl ?_
                  refine chain_move (.slice (some ⟨rb, ro, none⟩) m cap') _ (fun _ _ => Below.refl _ _) rfl rfl (by kernel_rfl) (by kernel_rfl) rfl ?_
                  refine chain_move (.int .i64 k) _ (fun _ _ => Below.refl _ _) rfl rfl (by kernel_rfl) (by kernel_rfl) rfl ?_
                  refine chain_bin (.int .i64 q) _ _ _ _ _ (.int .i64 k) (.int .i64 1) (fun _ _ => Below.refl _ _) rfl rfl (by kernel_rfl) (by kernel_rfl) rfl rfl (fun w1 => sub_i _ _ _ k q HK.out (by omega) w1) ?_
                  refine chain_idx (.pointer (some ⟨rb, ro + q, none⟩)) _ _ _ (.slice (some ⟨rb, ro, none⟩) m cap') (.int .i64 q) (fun _ _ => Below.refl _ _) rfl rfl (by kernel_rfl) (by kernel_rfl) rfl rfl (fun w1 => idx_int _ _ _ _ _ hqm w1) ?_
                  refine chain_load (.int .i64 prev) _ _ _ (fun _ _ => Below.refl _ _) rfl rfl (by kernel_rfl) (by kernel_rfl) rfl (fun w1 hC => load_intp (cell_int_at (HZ0.out.below (F.out.old hC).2.2) HQ.out)) ?_
                  refine chain_move (.int .i64 (j : Int)) _ (fun _ _ => Below.refl _ _) rfl rfl (by kernel_rfl) (by kernel_rfl) rfl ?_
                  refine chain_bin (.bool false) _ _ _ _ _ (.int .i64 prev) (.int .i64 (j : Int)) (fun _ _ => Below.refl _ _) rfl rfl (by kernel_rfl) (by kernel_rfl) rfl rfl (fun w1 => geq_i _ _ _ _ _ _ Q4.out w1) ?_
                  refine chain_pick (.bool false) _ _ _ true (fun _ _ => Below.refl _ _) rfl rfl (by kernel_rfl) (by kernel_rfl) rfl rfl ?_
                  refine chain_pick (.bool false) _ _ _ false (fun _ _ => Below.refl _ _) rfl rfl (by kernel_rfl) (by kernel_rfl) rfl rfl ?_
                  refine chain_move (.bool false) _ (fun _ _ => Below.refl _ _) rfl rfl (by kernel_rfl) (by kernel_rfl) rfl ?_
                  refine chain_move (.slice (some ⟨lb, lo, none⟩) n cap) _ (fun _ _ => Below.refl _ _) rfl rfl (by kernel_rfl) (by kernel_rfl) rfl ?_
                  refine chain_move (.int .i64 (j : Int)) _ (fun _ _ => Below.refl _ _) rfl rfl (by kernel_rfl) (by kernel_rfl) rfl ?_
                  refine chain_idx (.pointer (some ⟨lb, lo + j * 4, none⟩)) _ _ _ (.slice (some ⟨lb, lo, none⟩) n cap) (.int .i64 (j : Int)) (fun _ _ => Below.refl _ _) rfl rfl (by kernel_rfl) (by kernel_rfl) rfl rfl (fun w1 => idx_setp _ _ _ _ _ hjn w1) ?_
                  refine chain_load (setV M) _ _ _ (fun _ _ => Below.refl _ _) rfl rfl (by kernel_rfl) (by kernel_rfl) rfl (fun w1 hC => HLD.out w1 (F.out.old hC)) ?_
                  refine chain_call (.int .i64 c) 37 [setV M] _ _ (enters_of Tryd.func37 (by kernel_rfl) rfl) rfl rfl rfl (by kernel_rfl) (by kernel_rfl) rfl rfl (fun w1 _ => HSz.out w1) ?_
                  refine chain_bin (.bool false) _ _ _ _ _ (.int .i64 c) (.int .i64 0) (fun _ _ => Below.refl _ _) rfl rfl (by kernel_rfl) (by kernel_rfl) rfl rfl (fun w1 => eql_i _ _ _ _ _ _ Q5.out w1) ?_
                  refine chain_pick (.bool false) _ _ _ false (fun _ _ => Below.refl _ _) rfl rfl (by kernel_rfl) (by kernel_rfl) rfl rfl ?_
                  refine chain_move (.bool false) _ (fun _ _ => Below.refl _ _) rfl rfl (by kernel_rfl) (by kernel_rfl) rfl ?_
                  refine chain_load (setV A) _ _ _ (fun _ _ => Below.refl _ _) rfl rfl (by kernel_rfl) (by kernel_rfl) rfl (fun w1 hC => load_set (F.out.old hC).2.1) ?_
                  refine chain_move (.slice (some ⟨lb, lo, none⟩) n cap) _ (fun _ _ => Below.refl _ _) rfl rfl (by kernel_rfl) (by kernel_rfl) rfl ?_
                  refine chain_move (.int .i64 (j : Int)) _ (fun _ _ => Below.refl _ _) rfl rfl (by kernel_rfl) (by kernel_rfl) rfl ?_
                  refine chain_idx (.pointer (some ⟨lb, lo + j * 4, none⟩)) _ _ _ (.slice (some ⟨lb, lo, none⟩) n cap) (.int .i64 (j : Int)) (fun _ _ => Below.refl _ _) rfl rfl (by kernel_rfl) (by kernel_rfl) rfl rfl (fun w1 => idx_setp _ _ _ _ _ hjn w1) ?_
                  refine chain_load (setV M) _ _ _ (fun _ _ => Below.refl _ _) rfl rfl (by kernel_rfl) (by kernel_rfl) rfl (fun w1 hC => HLD.out w1 (F.out.old hC)) ?_
                  refine chain_call (.bool true) 41 [setV A, setV M] _ _ (enters_of Tryd.func41 (by kernel_rfl) rfl) rfl rfl rfl (by kernel_rfl) (by kernel_rfl) rfl rfl (fun w1 _ => HMe.out w1) ?_
                  refine chain_pick (.bool true) _ _ _ false (fun _ _ => Below.refl _ _) rfl rfl (by kernel_rfl) (by kernel_rfl) rfl rfl ?_
                  refine chain_end (by rfl) ?_
                  intro xs w6 hCw6 hrew6
                  simp only [layE, List.foldr_cons, List.foldr_nil, List.set_cons_succ, List.set_cons_zero]
                  have HE := Lib.hid (F.out.2.2.trans (((Below.refl _ wr).drew.trans hCw6).mono F.out.2.2.size))
                  clear hCw6 hrew6
                  go_wp2_with fail
                  go_ret
                  exact ⟨by rw [HB.out]; rfl, HE.out⟩
                | true =>
                  have HNX : Hid (covW ls 0 (-1) zs = covW ls (A ||| M) j (zs.drop (k + 1))) := by
                    rw [Hid, HCV.out, HDR.out]
                    conv => lhs; unfold covW
                    rw [if_neg HOK.out, if_neg (by rw [Int.toNat_natCast, ← HMM.out, ← HC.out]; exact h5), if_neg (by rw [Int.toNat_natCast, ← HMM.out, ← HZ.out]; decide), Int.toNat_natCast, ← HMM.out]
                  clear h5
                  refine wp_region_old 37 67 (by kernel_rfl) (by kernel_rfl) (by rfl) ?_
                  simp only [List.take_succ_cons, List.take_zero, List.drop_succ_cons, List.drop_zero, List.drop_nil]
                  refine chain_move (.int .i64 (j : Int)) _ (fun _ _ => Below.refl _ _) rfl rfl (by kernel_rfl) (by kernel_rfl) rfl ?_
                  refine chain_bin (.bool false) _ _ _ _ _ (.int .i64 (j : Int)) (.int .i64 0) (fun _ _ => Below.refl _ _) rfl rfl (by kernel_rfl) (by kernel_rfl) rfl rfl (fun w1 => lss_i _ _ _ _ _ _ Q1.out w1) ?_
                  refine chain_move (.bool false) _ (fun _ _ => Below.refl _ _) rfl rfl (by kernel_rfl) (by kernel_rfl) rfl ?_
                  refine chain_move (.int .i64 (j : Int)) _ (fun _ _ => Below.refl _ _) rfl rfl (by kernel_rfl) (by kernel_rfl) rfl ?_
                  refine chain_move (.slice (some ⟨lb, lo, none⟩) n cap) _ (fun _ _ => Below.refl _ _) rfl rfl (by kernel_rfl) (by kernel_rfl) rfl ?_
                  refine chain_len (.int .i64 n) _ _ (.slice (some ⟨lb, lo, none⟩) n cap) _ (fun _ _ => Below.refl _ _) rfl rfl rfl rfl rfl (by kernel_rfl) (by kernel_rfl) rfl (fun ty cs w => run_len_sets _ _ _ ty cs w) ?_
                  refine chain_bin (.bool false) _ _ _ _ _ (.int .i64 (j : Int)) (.int .i64 n) (fun _ _ => Below.refl _ _) rfl rfl (by kernel_rfl) (by kernel_rfl) rfl rfl (fun w1 => geq_i _ _ _ _ _ _ Q2.out w1) ?_
                  refine chain_pick (.bool false) _ _ _ false (fun _ _ => Below.refl _ _) rfl rfl (by kernel_rfl) (by kernel_rfl) rfl rfl ?_
                  refine chain_move (.bool false) _ (fun _ _ => Below.refl _ _) rfl rfl (by kernel_rfl) (by kernel_rfl) rfl ?_
                  refine chain_move (.int .i64 k) _ (fun _ _ => Below.refl _ _) rfl rfl (by kernel_rfl) (by kernel_rfl) rfl ?_
                  refine chain_bin (.bool true) _ _ _ _ _ (.int .i64 k) (.int .i64 0) (fun _ _ => Below.refl _ _) rfl rfl (by kernel_rfl) (by kernel_rfl) rfl rfl (fun w1 => gtr_int _ _ _ _ _ _ Q3.out w1) ?_
                  refine chain_move (.bool true) _ (fun _ _ => Below.refl _ _) rfl rfl (by kernel_rfl) (by kernel_rfl) rfl ?_
                  refine chain_move (.slice (some ⟨rb, ro, none⟩) m cap') _ (fun _ _ => Below.refl _ _) rfl rfl (by kernel_rfl) (by kernel_rfl) rfl ?_
                  refine chain_move (.int .i64 k) _ (fun _ _ => Below.refl _ _) rfl rfl (by kernel_rfl) (by kernel_rfl) rfl ?_
                  refine chain_bin (.int .i64 q) _ _ _ _ _ (.int .i64 k) (.int .i64 1) (fun _ _ => Below.refl _ _) rfl rfl (by kernel_rfl) (by kernel_rfl) rfl rfl (fun w1 => sub_i _ _ _ k q HK.out (by omega) w1) ?_
                  refine chain_idx (.pointer (some ⟨rb, ro + q, none⟩)) _ _ _ (.slice (some ⟨rb, ro, none⟩) m cap') (.int .i64 q) (fun _ _ => Below.refl _ _) rfl rfl (by kernel_rfl) (by kernel_rfl) rfl rfl (fun w1 => idx_int _ _ _ _ _ hqm w1) ?_
                  refine chain_load (.int .i64 prev) _ _ _ (fun _ _ => Below.refl _ _) rfl rfl (by kernel_rfl) (by kernel_rfl) rfl (fun w1 hC => load_intp (cell_int_at (HZ0.out.below (F.out.old hC).2.2) HQ.out)) ?_
                  refine chain_move (.int .i64 (j : Int)) _ (fun _ _ => Below.refl _ _) rfl rfl (by kernel_rfl) (by kernel_rfl) rfl ?_
                  refine chain_bin (.bool false) _ _ _ _ _ (.int .i64 prev) (.int .i64 (j : Int)) (fun _ _ => Below.refl _ _) rfl rfl (by kernel_rfl) (by kernel_rfl) rfl rfl (fun w1 => geq_i _ _ _ _ _ _ Q4.out w1) ?_
                  refine chain_pick (.bool false) _ _ _ true (fun _ _ => Below.refl _ _) rfl rfl (by kernel_rfl) (by kernel_rfl) rfl rfl ?_
                  refine chain_pick (.bool false) _ _ _ false (fun _ _ => Below.refl _ _) rfl rfl (by kernel_rfl) (by kernel_rfl) rfl rfl ?_
                  refine chain_move (.bool false) _ (fun _ _ => Below.refl _ _) rfl rfl (by kernel_rfl) (by kernel_rfl) rfl ?_
                  refine chain_move (.slice (some ⟨lb, lo, none⟩) n cap) _ (fun _ _ => Below.refl _ _) rfl rfl (by kernel_rfl) (by kernel_rfl) rfl ?_
                  refine chain_move (.int .i64 (j : Int)) _ (fun _ _ => Below.refl _ _) rfl rfl (by kernel_rfl) (by kernel_rfl) rfl ?_
                  refine chain_idx (.pointer (some ⟨lb, lo + j * 4, none⟩)) _ _ _ (.slice (some ⟨lb, lo, none⟩) n cap) (.int .i64 (j : Int)) (fun _ _ => Below.refl _ _) rfl rfl (by kernel_rfl) (by kernel_rfl) rfl rfl (fun w1 => idx_setp _ _ _ _ _ hjn w1) ?_
                  refine chain_load (setV M) _ _ _ (fun _ _ => Below.refl _ _) rfl rfl (by kernel_rfl) (by kernel_rfl) rfl (fun w1 hC => HLD.out w1 (F.out.old hC)) ?_
                  refine chain_call (.int .i64 c) 37 [setV M] _ _ (enters_of Tryd.func37 (by kernel_rfl) rfl) rfl rfl rfl (by kernel_rfl) (by kernel_rfl) rfl rfl (fun w1 _ => HSz.out w1) ?_
                  refine chain_bin (.bool false) _ _ _ _ _ (.int .i64 c) (.int .i64 0) (fun _ _ => Below.refl _ _) rfl rfl (by kernel_rfl) (by kernel_rfl) rfl rfl (fun w1 => eql_i _ _ _ _ _ _ Q5.out w1) ?_
                  refine chain_pick (.bool false) _ _ _ false (fun _ _ => Below.refl _ _) rfl rfl (by kernel_rfl) (by kernel_rfl) rfl rfl ?_
                  refine chain_move (.bool false) _ (fun _ _ => Below.refl _ _) rfl rfl (by kernel_rfl) (by kernel_rfl) rfl ?_
                  refine chain_load (setV A) _ _ _ (fun _ _ => Below.refl _ _) rfl rfl (by kernel_rfl) (by kernel_rfl) rfl (fun w1 hC => load_set (F.out.old hC).2.1) ?_
                  refine chain_move (.slice (some ⟨lb, lo, none⟩) n cap) _ (fun _ _ => Below.refl _ _) rfl rfl (by kernel_rfl) (by kernel_rfl) rfl ?_
                  refine chain_move (.int .i64 (j : Int)) _ (fun _ _ => Below.refl _ _) rfl rfl (by kernel_rfl) (by kernel_rfl) rfl ?_
                  refine chain_idx (.pointer (some ⟨lb, lo + j * 4, none⟩)) _ _ _ (.slice (some ⟨lb, lo, none⟩) n cap) (.int .i64 (j : Int)) (fun _ _ => Below.refl _ _) rfl rfl (by kernel_rfl) (by kernel_rfl) rfl rfl (fun w1 => idx_setp _ _ _ _ _ hjn w1) ?_
                  refine chain_load (setV M) _ _ _ (fun _ _ => Below.refl _ _) rfl rfl (by kernel_rfl) (by kernel_rfl) rfl (fun w1 hC => HLD.out w1 (F.out.old hC)) ?_
                  refine chain_call (.bool false) 41 [setV A, setV M] _ _ (enters_of Tryd.func41 (by kernel_rfl) rfl) rfl rfl rfl (by kernel_rfl) (by kernel_rfl) rfl rfl (fun w1 _ => HMe.out w1) ?_
                  refine chain_pick (.bool false) _ _ _ false (fun _ _ => Below.refl _ _) rfl rfl (by kernel_rfl) (by kernel_rfl) rfl rfl ?_
                  refine chain_end (by rfl) ?_
                  intro xs w6 hCw6 hrew6
                  simp only [layE, List.foldr_cons, List.foldr_nil, List.set_cons_succ, List.set_cons_zero]
                  have F6 := Lib.hid (F.out.old hCw6)
                  clear hCw6 hrew6 F hcp
                  go_upto_region 8 with (fail)
                  have HUn : Hid (∀ w, Calls Tryd.prog 31 #[setV A, setV M] w fun e w' => e = .returned (setV (A ||| M)) ∧ Below w.heap.size w w') := fun w => union_any A M w
                  obtain ⟨U, hU⟩ : ∃ U, U = A ||| M := ⟨_, rfl⟩
                  rw [← hU] at HUn
                  have HU := Lib.hid hU
                  clear hU
                  refine wp_region_old 6 67 (by kernel_rfl) (by kernel_rfl) (by rfl) ?_
                  simp only [List.take_succ_cons, List.take_zero, List.drop_succ_cons, List.drop_zero, List.drop_nil]
                  refine chain_load (setV A) _ _ _ (fun _ _ => Below.refl _ _) rfl rfl (by kernel_rfl) (by kernel_rfl) rfl (fun w1 hC => load_set (F6.out.old hC).2.1) ?_
                  refine chain_move (.slice (some ⟨lb, lo, none⟩) n cap) _ (fun _ _ => Below.refl _ _) rfl rfl (by kernel_rfl) (by kernel_rfl) rfl ?_
                  refine chain_move (.int .i64 (j : Int)) _ (fun _ _ => Below.refl _ _) rfl rfl (by kernel_rfl) (by kernel_rfl) rfl ?_
                  refine chain_idx (.pointer (some ⟨lb, lo + j * 4, none⟩)) _ _ _ (.slice (some ⟨lb, lo, none⟩) n cap) (.int .i64 (j : Int)) (fun _ _ => Below.refl _ _) rfl rfl (by kernel_rfl) (by kernel_rfl) rfl rfl (fun w1 => idx_setp _ _ _ _ _ hjn w1) ?_
                  refine chain_load (setV M) _ _ _ (fun _ _ => Below.refl _ _) rfl rfl (by kernel_rfl) (by kernel_rfl) rfl (fun w1 hC => HLD.out w1 (F6.out.old hC)) ?_
                  refine chain_call (setV U) 31 [setV A, setV M] _ _ (enters_of Tryd.func31 (by kernel_rfl) rfl) rfl rfl rfl (by kernel_rfl) (by kernel_rfl) rfl rfl (fun w1 _ => HUn.out w1) ?_
                  refine chain_end (by rfl) ?_
                  intro xs w8 hCw8 hrew8
                  simp only [layE, List.foldr_cons, List.foldr_nil, List.set_cons_succ, List.set_cons_zero]
                  have F8 := Lib.hid (F6.out.old hCw8)
                  clear hCw8 hrew8 F6
                  obtain ⟨u0, u1, u2, u3, uf⟩ := F8.out.2.1.set4
                  simp only [setV]
                  go_wp2_with fail
                  exact ⟨⟨k + 1, U, j, by omega, by simp, by rw [HU.out]; exact HNX.out, .inr ⟨k, rfl, HP.out⟩, by rw [Hid, HU.out]; exact Nat.or_lt_two_pow HAL.out HML.out, F8.out.put U⟩, by simp [intOf]; omega⟩
    · have e : k = m := by omega
      have HR : Hid (cvB ls S zs = eqS A S) := by
        unfold Hid cvB
        rw [HCV.out, List.drop_of_length_le (by rw [← HM.out]; omega)]
        rfl
      clear e
      obtain ⟨c0, c1, c2, c3, cf⟩ := F.out.1.set4
      obtain ⟨d0, d1, d2, d3, df⟩ := F.out.2.1.set4
      obtain ⟨z, hz⟩ : ∃ z, z = eqS A S := ⟨_, rfl⟩
      have hz' : eqS A S = z := hz.symm
      have HZ := Lib.hid hz
      clear hz
      go_wp2_with fail
      go_ret
      exact ⟨by rw [HR.out, ← HZ.out]; rfl, F.out.2.2⟩
end Go.Proofs.YtjifajigigflkaaDoor
namespace Go.Proofs.YtjifajigigflkaaDoor
set_option linter.unusedSimpArgs false
set_option linter.unusedVariables false
open Go Go.RowKit

theorem card_nz {x : Nat} (hx : x < 2 ^ 256) : card x = 0 ↔ x = 0 := by
  constructor
  · intro h
    rw [← mem_card] at h
    have hm : mem x = [] := List.length_eq_zero_iff.1 h
    apply zero_of_bits hx
    intro i hi
    cases hb : x.testBit i with
    | false => rfl
    | true => have := (mem_iff hx).2 hb; rw [hm] at this; cases this
  · rintro rfl; decide +kernel
theorem getD_lt {ls : List Nat} (hls : ∀ N ∈ ls, N < 2 ^ 256) (j : Nat) : ls.getD j 0 < 2 ^ 256 := by
  rw [List.getD_eq_getElem?_getD]
  cases h : ls[j]? with
  | none => decide
  | some M => exact hls M (List.mem_of_getElem? h)
theorem and_zero_iff (x y : Nat) : x &&& y = 0 ↔ ∀ i, x.testBit i = true → y.testBit i = false := by
  constructor
  · intro h i hi
    have := congrArg (·.testBit i) h
    simp only [Nat.testBit_and, Nat.zero_testBit, hi, Bool.true_and] at this
    exact this
  · intro h
    apply Nat.eq_of_testBit_eq; intro i
    rw [Nat.testBit_and, Nat.zero_testBit]
    cases hx : x.testBit i with
    | false => rfl
    | true => rw [h i hx]; rfl
theorem covW_sound {ls : List Nat} (hls : ∀ N ∈ ls, N < 2 ^ 256) : ∀ (zs : List Int) (A : Nat) (prev : Int) (S : Nat), A < 2 ^ 256 → -1 ≤ prev → covW ls A prev zs = some S → ∃ q : List Nat, zs = intL q ∧ (∀ i, A.testBit i = true → S.testBit i = true) ∧ CovR ls (diff S A) (prev + 1).toNat q
  | [], A, prev, S, hA, hp, h => by
    obtain rfl := Option.some.inj h
    refine ⟨[], rfl, fun _ h => h, ?_⟩
    show diff A A = 0
    apply Nat.eq_of_testBit_eq; intro i
    rw [testBit_diff, Nat.zero_testBit]
    cases A.testBit i <;> rfl
  | p :: ps, A, prev, S, hA, hp, h => by
    unfold covW at h
    split at h
    · cases h
    · rename_i h1
      split at h
      · cases h
      · rename_i h2
        split at h
        · cases h
        · rename_i h3
          obtain ⟨j, rfl⟩ := Int.eq_ofNat_of_zero_le (show 0 ≤ p by omega)
          rw [Int.toNat_natCast] at h h2 h3
          have hM := getD_lt hls j
          obtain ⟨q, hq, hsub, hcov⟩ := covW_sound hls ps (A ||| ls.getD j 0) j S (Nat.or_lt_two_pow hA hM) (by omega) h
          have hdis : A &&& ls.getD j 0 = 0 := (eqS_iff (Nat.lt_of_le_of_lt Nat.and_le_left hA) (by decide)).1 (by simpa using h3)
          have hdis' := (and_zero_iff _ _).1 hdis
          refine ⟨j :: q, by rw [hq]; rfl, fun i hi => hsub i (by rw [Nat.testBit_or, hi]; rfl), by omega, by omega, fun e => h2 ((card_nz hM).2 e), ?_, ?_⟩
          · apply Nat.eq_of_testBit_eq; intro i
            rw [testBit_diff, testBit_diff, Nat.zero_testBit]
            cases hb : (ls.getD j 0).testBit i with
            | false => rfl
            | true =>
              rw [hsub i (by rw [Nat.testBit_or, hb]; simp)]
              cases ha : A.testBit i with
              | false => rfl
              | true => rw [hdis' i ha] at hb; cases hb
          · have e : diff (diff S A) (ls.getD j 0) = diff S (A ||| ls.getD j 0) := by
              apply Nat.eq_of_testBit_eq; intro i
              rw [testBit_diff, testBit_diff, testBit_diff, Nat.testBit_or]
              cases S.testBit i <;> cases A.testBit i <;> cases (ls.getD j 0).testBit i <;> rfl
            rw [e]
            rw [show ((j : Int) + 1).toNat = j + 1 by omega] at hcov
            exact hcov
theorem covW_all {ls : List Nat} (hls : ∀ N ∈ ls, N < 2 ^ 256) : ∀ (q : List Nat) (A R i : Nat) (prev : Int), A < 2 ^ 256 → A &&& R = 0 → prev < i → CovR ls R i q → covW ls A prev (intL q) = some (A ||| R)
  | [], A, R, i, prev, hA, hd, hp, h => by
    obtain rfl : R = 0 := h
    show some A = some (A ||| 0)
    rw [Nat.or_zero]
  | p :: ps, A, R, i, prev, hA, hd, hp, ⟨h1, h2, h3, h4, h5⟩ => by
    have hM := getD_lt hls p
    have hw : ∀ k, (ls.getD p 0).testBit k = true → R.testBit k = true := (diff_zero_iff _ _).1 h4
    have hd' := (and_zero_iff _ _).1 hd
    have hAM : A &&& ls.getD p 0 = 0 := (and_zero_iff _ _).2 fun k hk => by
      cases hb : (ls.getD p 0).testBit k with
      | false => rfl
      | true => have := hw k hb; rw [hd' k hk] at this; cases this
    show covW ls A prev ((p : Int) :: intL ps) = _
    unfold covW
    rw [if_neg (by omega), Int.toNat_natCast, if_neg (fun e => h3 ((card_nz hM).1 e)), if_neg (by rw [hAM]; decide)]
    rw [covW_all hls ps (A ||| ls.getD p 0) (diff R (ls.getD p 0)) (p + 1) p (Nat.or_lt_two_pow hA hM) ((and_zero_iff _ _).2 fun k hk => by
      rw [Nat.testBit_or, Bool.or_eq_true] at hk
      rw [testBit_diff]
      rcases hk with hk | hk
      · rw [hd' k hk]; rfl
      · rw [hk]; simp) (by omega) h5]
    congr 1
    apply Nat.eq_of_testBit_eq; intro k
    rw [Nat.testBit_or, Nat.testBit_or, Nat.testBit_or, testBit_diff]
    have := hw k
    cases hm : (ls.getD p 0).testBit k with
    | false => simp
    | true => rw [this hm]; cases A.testBit k <;> rfl
theorem zero_and (R : Nat) : 0 &&& R = 0 := by
  apply Nat.eq_of_testBit_eq; intro i
  rw [Nat.testBit_and, Nat.zero_testBit]; rfl
theorem zero_or' (R : Nat) : 0 ||| R = R := by
  apply Nat.eq_of_testBit_eq; intro i
  rw [Nat.testBit_or, Nat.zero_testBit]; rfl
theorem cvB_cov {ls : List Nat} (hls : ∀ N ∈ ls, N < 2 ^ 256) {S : Nat} (hS : S < 2 ^ 256) {q : List Nat} (h : cov ls ls.length S 0 = some q) : cvB ls S (intL q) = true := by
  have h1 := cov_sound ls.length S 0 q (by omega) h
  unfold cvB
  rw [covW_all hls q 0 S 0 (-1) (by decide) (zero_and S) (by decide) h1, zero_or']
  exact (eqS_iff hS hS).2 rfl
theorem covW_lt {ls : List Nat} (hls : ∀ N ∈ ls, N < 2 ^ 256) : ∀ (zs : List Int) (A : Nat) (prev : Int) (S : Nat), A < 2 ^ 256 → covW ls A prev zs = some S → S < 2 ^ 256
  | [], A, prev, S, hA, h => by
    obtain rfl := Option.some.inj h
    exact hA
  | p :: ps, A, prev, S, hA, h => by
    unfold covW at h
    split at h
    · cases h
    · split at h
      · cases h
      · split at h
        · cases h
        · exact covW_lt hls ps _ p S (Nat.or_lt_two_pow hA (getD_lt hls _)) h
theorem cvB_least {ls : List Nat} (hls : ∀ N ∈ ls, N < 2 ^ 256) {S : Nat} (hS : S < 2 ^ 256) {zs : List Int} (h : cvB ls S zs = true) : ∃ q, cov ls ls.length S 0 = some q ∧ lessL zs (intL q) = false := by
  unfold cvB at h
  cases hc : covW ls 0 (-1) zs with
  | none => rw [hc] at h; cases h
  | some A =>
    rw [hc] at h
    obtain ⟨q, hq, _, hcov⟩ := covW_sound hls zs 0 (-1) A (by decide) (by decide) hc
    have hAlt : A < 2 ^ 256 := covW_lt hls zs 0 (-1) A (by decide) hc
    obtain rfl : A = S := (eqS_iff hAlt hS).1 h
    rw [diff_zero] at hcov
    obtain ⟨q2, h1, h2⟩ := cov_least ls.length A 0 q (by omega) hcov
    exact ⟨q2, h1, by rw [hq]; exact h2⟩
/-! ### Hits -/
def hitsB (ls : List Nat) (T : Nat) : Bool := ls.all fun M => !eqS (T &&& M) 0
theorem hitsB_zero {ls : List Nat} (hls : ∀ N ∈ ls, N < 2 ^ 256) (h : ls.any (eqS 0) = true) (T : Nat) : hitsB ls T = false := by
  obtain ⟨M, hM, he⟩ := List.any_eq_true.1 h
  have h0 : 0 = M := (eqS_iff (by decide) (hls M hM)).1 he
  unfold hitsB
  rw [List.all_eq_false]
  refine ⟨M, hM, ?_⟩
  rw [← h0, Nat.and_zero]
  decide
theorem hitsB_iff {ls : List Nat} (hls : ∀ N ∈ ls, N < 2 ^ 256) {T : Nat} (hT : T < 2 ^ 256) : hitsB ls T = true ↔ Hits ls (2 ^ ls.length - 1) T := by
  unfold hitsB
  rw [List.all_eq_true]
  constructor
  · intro h i hi
    have hil : i < ls.length := by
      rw [Nat.testBit_two_pow_sub_one] at hi
      simpa using hi
    have h1 := h ls[i] (List.getElem_mem hil)
    rw [List.getD_eq_getElem?_getD, List.getElem?_eq_getElem hil]
    simp only [Option.getD_some]
    have h2 : ¬ T &&& ls[i] = 0 := fun e => by
      rw [e] at h1; revert h1; decide
    apply Classical.byContradiction
    intro hne
    apply h2
    apply (and_zero_iff _ _).2
    intro k hk
    cases hb : ls[i].testBit k with
    | false => rfl
    | true => exact absurd ⟨k, hb, hk⟩ hne
  · intro h M hM
    obtain ⟨i, hil, rfl⟩ := List.getElem_of_mem hM
    obtain ⟨n, h1, h2⟩ := h i (by rw [Nat.testBit_two_pow_sub_one]; simpa using hil)
    rw [List.getD_eq_getElem?_getD, List.getElem?_eq_getElem hil] at h1
    simp only [Option.getD_some] at h1
    have h3 : eqS (T &&& ls[i]) 0 = false := by
      rw [Bool.eq_false_iff]
      intro e
      have := (eqS_iff (Nat.lt_of_le_of_lt Nat.and_le_left hT) (by decide)).1 e
      have h4 := (and_zero_iff _ _).1 this n h2
      rw [h1] at h4; cases h4
    rw [h3]; rfl
theorem hit_exact {ls : List Nat} (hls : ∀ N ∈ ls, N < 2 ^ 256) (hlen : ls.length ≤ 16) (hz : ls.any (eqS 0) = false) : hitV ls (2 ^ ls.length - 1) < 2 ^ 256 ∧ hitsB ls (hitV ls (2 ^ ls.length - 1)) = true ∧ ∀ T, T < 2 ^ 256 → hitsB ls T = true → card (hitV ls (2 ^ ls.length - 1)) < card T ∨ card (hitV ls (2 ^ ls.length - 1)) = card T ∧ hitV ls (2 ^ ls.length - 1) ≤ T := by
  have hnz : ∀ N ∈ ls, N ≠ 0 := fun N hN e => by
    have := List.any_eq_false.1 hz N hN
    rw [e] at this; exact this (by decide)
  have h2 : 0 < 2 ^ ls.length := Nat.two_pow_pos _
  obtain ⟨h1, h3, h4⟩ := hit_best hls hnz hlen (2 ^ ls.length) (2 ^ ls.length - 1) (by omega) (by omega)
  refine ⟨h1, (hitsB_iff hls h1).2 h3, fun T hT hh => ?_⟩
  have := (bet_no _ _).1 (h4 T hT ((hitsB_iff hls hT).1 hh))
  omega
end Go.Proofs.YtjifajigigflkaaDoor
namespace Go.Proofs.YtjifajigigflkaaDoor
set_option linter.unusedSimpArgs false
set_option linter.unusedVariables false
open Go Go.RowKit

/-- The numbers below k that are the first to be in just the sets that they are in, and are in some. -/
def repL (ls : List Nat) : Nat → List Nat
  | 0 => []
  | k + 1 => if hold ls ls.length k = 0 ∨ (repL ls k).any (fun r => hold ls ls.length r == hold ls ls.length k) = true then repL ls k else repL ls k ++ [k]
theorem repL_lt {ls : List Nat} : ∀ (k r : Nat), r ∈ repL ls k → r < k
  | 0, r, h => by simp [repL] at h
  | k + 1, r, h => by
    unfold repL at h
    split at h
    · have := repL_lt k r h; omega
    · rcases List.mem_append.1 h with h | h
      · have := repL_lt k r h; omega
      · simp at h; omega
theorem repL_mono {ls : List Nat} (k r : Nat) (h : r ∈ repL ls k) : r ∈ repL ls (k + 1) := by
  unfold repL
  split
  · exact h
  · exact List.mem_append_left _ h
theorem repL_len {ls : List Nat} : ∀ k, (repL ls k).length ≤ k
  | 0 => by simp [repL]
  | k + 1 => by
    have := repL_len (ls := ls) k
    unfold repL
    split
    · omega
    · rw [List.length_append]; simp; omega
theorem repL_has {ls : List Nat} : ∀ (k n : Nat), n < k → hold ls ls.length n ≠ 0 → ∃ r ∈ repL ls k, hold ls ls.length r = hold ls ls.length n ∧ r ≤ n
  | 0, n, h, _ => by omega
  | k + 1, n, h, hn => by
    by_cases e : n = k
    · subst e
      by_cases ha : (repL ls n).any (fun r => hold ls ls.length r == hold ls ls.length n) = true
      · obtain ⟨r, hr, he⟩ := List.any_eq_true.1 ha
        exact ⟨r, repL_mono n r hr, by simpa using he, by have := repL_lt n r hr; omega⟩
      · refine ⟨n, ?_, rfl, Nat.le_refl _⟩
        unfold repL
        rw [if_neg (fun h => h.elim hn ha)]
        simp
    · obtain ⟨r, h1, h2, h3⟩ := repL_has k n (by omega) hn
      exact ⟨r, repL_mono k r h1, h2, h3⟩
/-- Which of the numbers meet a set. -/
def meetL (ls : List Nat) (first : Nat) : List Nat := (repL ls 256).filter fun n => (hold ls ls.length n).testBit first
theorem rep_of_best {ls : List Nat} (hls : ∀ N ∈ ls, N < 2 ^ 256) {mask first H n : Nat} (hM : mask < 2 ^ ls.length) (hf : mask.testBit first = true) (hB : Best ls mask H) (h1 : (ls.getD first 0).testBit n = true) (h2 : H.testBit n = true) : n ∈ meetL ls first := by
  have hfl : first < ls.length := by
    rcases Nat.lt_or_ge first ls.length with h | h
    · exact h
    · have := Nat.testBit_lt_two_pow (Nat.lt_of_lt_of_le hM (Nat.pow_le_pow_right (n := 2) (by decide) h))
      rw [this] at hf; cases hf
  have hhf : (hold ls ls.length n).testBit first = true := by rw [hold_bit, h1]; simp [hfl]
  have hn6 : n < 256 := by
    rcases Nat.lt_or_ge n 256 with h | h
    · exact h
    · rw [testBit_big hB.1 h] at h2; cases h2
  obtain ⟨r, hr, he, hle⟩ := repL_has (ls := ls) 256 n hn6 (fun e => by rw [e, Nat.zero_testBit] at hhf; cases hhf)
  have hrn : r = n := by
    rcases Nat.lt_or_eq_of_le hle with hlt | h
    · exfalso
      have same : ∀ i, i < ls.length → (ls.getD i 0).testBit r = (ls.getD i 0).testBit n := fun i hi => by
        have := congrArg (·.testBit i) he
        simp only [hold_bit, hi, decide_true, Bool.true_and] at this
        exact this
      have hT : diff H (2 ^ n) ||| 2 ^ r < 2 ^ 256 := Nat.or_lt_two_pow (diff_lt hB.1) (pow_lt256 (by omega))
      have hh : Hits ls mask (diff H (2 ^ n) ||| 2 ^ r) := fun i hi => by
        have hil : i < ls.length := by
          rcases Nat.lt_or_ge i ls.length with h | h
          · exact h
          · have := Nat.testBit_lt_two_pow (Nat.lt_of_lt_of_le hM (Nat.pow_le_pow_right (n := 2) (by decide) h))
            rw [this] at hi; cases hi
        obtain ⟨m, m1, m2⟩ := hB.2.1 i hi
        by_cases e : m = n
        · subst e
          exact ⟨r, by rw [same i hil]; exact m1, by rw [bit_or_pow]; simp⟩
        · exact ⟨m, m1, by rw [bit_or_pow, testBit_diff, Nat.testBit_two_pow, m2]; simp [Ne.symm e]⟩
      have hb := (bet_no _ _).1 (hB.2.2 _ hT hh)
      have hcw := card_wo h2 hn6
      by_cases hrH : H.testBit r = true
      · have e1 : diff H (2 ^ n) ||| 2 ^ r = diff H (2 ^ n) := or_pow_has (by rw [testBit_diff, Nat.testBit_two_pow, hrH]; simp; omega)
        rw [e1] at hb
        omega
      · have hrH' : H.testBit r = false := by simpa using hrH
        have e1 := card_or_new (H := diff H (2 ^ n)) (n := r) (by rw [testBit_diff, hrH']; rfl) (by omega)
        have e2 : diff H (2 ^ n) ||| 2 ^ r < H := by
          refine lt_of_bits (i := n) ?_ h2 fun j hj => ?_
          · rw [bit_or_pow, testBit_diff, Nat.testBit_two_pow]; simp; omega
          · rw [bit_or_pow, testBit_diff, Nat.testBit_two_pow]
            have a1 : ¬ n = j := by omega
            have a2 : ¬ r = j := by omega
            simp [a1, a2]
        omega
    · exact h
  subst hrn
  unfold meetL
  rw [List.mem_filter]
  exact ⟨hr, hhf⟩
/-- The search through the numbers that meet the first set finds the best. -/
theorem foldl_hit {ls : List Nat} (hls : ∀ N ∈ ls, N < 2 ^ 256) (hnz : ∀ N ∈ ls, N ≠ 0) (hlen : ls.length ≤ 16) {mask first : Nat} (hM : mask < 2 ^ ls.length) (hf : mask.testBit first = true) :
    (meetL ls first).foldl (hitS fun n => hitV ls (diff mask (hold ls ls.length n))) none = some (hitV ls mask) := by
  have hB := hit_best hls hnz hlen (mask + 1) mask (by omega) hM
  have hfl : first < ls.length := by
    rcases Nat.lt_or_ge first ls.length with h | h
    · exact h
    · have := Nat.testBit_lt_two_pow (Nat.lt_of_lt_of_le hM (Nat.pow_le_pow_right (n := 2) (by decide) h))
      rw [this] at hf; cases hf
  obtain ⟨n, n1, n2⟩ := hB.2.1 first hf
  have hn := rep_of_best hls hM hf hB n1 n2
  obtain ⟨H, h1, h2, h3, _⟩ := foldl_best (fun n => hitV ls (diff mask (hold ls ls.length n))) (meetL ls first) none (.inl (fun e => by rw [e] at hn; cases hn))
  rw [h1]
  congr 1
  have ih : ∀ m, (hold ls ls.length m).testBit first = true → Best ls (diff mask (hold ls ls.length m)) (hitV ls (diff mask (hold ls ls.length m))) := fun m hm => by
    have hlt : diff mask (hold ls ls.length m) < mask := by
      refine Nat.lt_of_le_of_ne (diff_le _ _) fun e => ?_
      have h2 : (diff mask (hold ls ls.length m)).testBit first = false := by rw [testBit_diff, hf, hm]; rfl
      rw [e, hf] at h2
      cases h2
    exact hit_best hls hnz hlen (mask + 1) _ (by omega) (by omega)
  rcases h2 with ⟨m, hm, e⟩ | e
  · have hmb : (hold ls ls.length m).testBit first = true := (List.mem_filter.1 hm).2
    have hm6 : m < 256 := repL_lt 256 m (List.mem_filter.1 hm).1
    have him := ih m hmb
    have hHB : H < 2 ^ 256 := by rw [e]; exact Nat.or_lt_two_pow him.1 (pow_lt256 hm6)
    have hHh : Hits ls mask H := by rw [e]; exact him.2.1.more
    have hnb : (hold ls ls.length n).testBit first = true := (List.mem_filter.1 hn).2
    have hn6 : n < 256 := repL_lt 256 n (List.mem_filter.1 hn).1
    have k1 := (ih n hnb).2.2 (diff (hitV ls mask) (2 ^ n)) (diff_lt hB.1) (hB.2.1.less hls hM)
    have k2 := (bet_no _ _).1 (bet_or (ih n hnb).1 hB.1 hn6 n2 k1)
    have k3 := (bet_no _ _).1 (h3 n hn)
    have k4 := (bet_no _ _).1 (hB.2.2 H hHB hHh)
    omega
  · cases e
end Go.Proofs.YtjifajigigflkaaDoor
