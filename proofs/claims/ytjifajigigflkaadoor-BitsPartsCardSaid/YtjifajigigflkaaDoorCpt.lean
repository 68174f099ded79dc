/- For all sets and all numbers of parts from 1 to 16, the sets of the numbers that leave each rest are the cover that Cover answers: the law BitsParts returns true. Conditions: the listed variables of Go's library hold what their text lays. -/
import Derived.Test.YtjifajigigflkaaDoorQe
import Derived.Test.YtjifajigigflkaaDoorQf
import Derived.Deep.Cut
import Derived.Deep.RegionWith
import Derived.Deep.DeepCutAuto
namespace Go.Proofs.YtjifajigigflkaaDoor
set_option linter.unusedSimpArgs false
set_option linter.unusedVariables false
open Go Go.RowKit
section
variable {P : Program} {ops : Array Oper} {C : Cl} {L : List Value} {K : Env → Prop} {o : Oper} {rest : List Oper} {E : Env} {d : Nat}
theorem chain_idx (v : Value) (t : TypeId) (x y : Operand) (a b : Value) (hr : ∀ w, C.C w → C.R w w) (hd : o.dst = some d) (ho : o.op = .indexAddr t x y) (hw : wantB ops o E L = true) (he : exB ops o E = true)
    (hx : evE E L x = a) (hy : evE E L y = b) (h : ∀ w, (Instr.indexAt t a b).run P w = .ok v w) (hk : chain P ops C L rest ((d, .ex v) :: E) K) : chain P ops C L (o :: rest) E K :=
  chain_val v hr hd (fun cs b e => by rw [ho] at e; cases e) hw he (fun w hC => by
    have := h w
    simp only [execOp, ho, hx, hy]
    rw [Sem.run_bind, this]; rfl) hk
theorem chain_ext (v : Value) (x : Operand) (i : Nat) (vs : Array Value) (hr : ∀ w, C.C w → C.R w w) (hd : o.dst = some d) (ho : o.op = .extract x i) (hw : wantB ops o E L = true) (he : exB ops o E = true)
    (hx : evE E L x = .tuple vs) (hv : vs[i]? = some v) (hk : chain P ops C L rest ((d, .ex v) :: E) K) : chain P ops C L (o :: rest) E K :=
  chain_val v hr hd (fun cs b e => by rw [ho] at e; cases e) hw he (fun w hC => by
    simp only [execOp, ho, hx]
    simp [go_sem, Instr.extract, hv]) hk
theorem chain_len (v : Value) (c : Call) (x : Operand) (a : Value) (t : TypeId) (hr : ∀ w, C.C w → C.R w w) (hd : o.dst = some d) (ho : o.op = .call c) (hc : c.callee = .builtin .len) (hxs : c.args = #[x]) (ht : c.argTypes = #[t]) (hw : wantB ops o E L = true) (he : exB ops o E = true)
    (hx : evE E L x = a) (h : ∀ (ty : TypeId) (cs : Array Bool) w, (builtin .len #[t] ty cs #[a]).run P w = .ok (.value v) w) (hk : chain P ops C L rest ((d, .ex v) :: E) K) : chain P ops C L (o :: rest) E K :=
  chain_val v hr hd (fun cs b e => by rw [ho] at e; cases e) hw he (fun w hC => by
    simp [execOp, ho, resolve, hc, hxs, ht, invoke, hx, h]) hk
end
theorem run_len_slice (a : Option Addr) (n cap : Nat) (ty : TypeId) (cs : Array Bool) (w : World) : (builtin .len #[22] ty cs #[.slice a n cap]).run Tryd.prog w = .ok (.value (.int .i64 n)) w := by
  simp [go_sem, builtin, Builtin.len_, run_underlying Tryd.underlying22]
theorem sub_small (t : TypeId) (x y : Operand) (a b s : Int) (h : a - b = s) (hs : -9223372036854775808 ≤ s ∧ s < 9223372036854775808) (w : World) :
    (do eqGuard .sub t x y (.int .i64 a) (.int .i64 b); binOp .sub t (.int .i64 a) (.int .i64 b) : Sem Value).run Tryd.prog w = .ok (.int .i64 s) w := by
  subst h
  have e := IntWalk.i64_in (a - b) (by omega)
  simp [go_sem]
  exact e
theorem leq_int (t : TypeId) (x y : Operand) (a b : Int) (p : Bool) (h : decide (a ≤ b) = p) (w : World) :
    (do eqGuard .leq t x y (.int .i64 a) (.int .i64 b); binOp .leq t (.int .i64 a) (.int .i64 b) : Sem Value).run Tryd.prog w = .ok (.bool p) w := by
  subst h; simp [go_sem]
theorem gtr_int (t : TypeId) (x y : Operand) (a b : Int) (p : Bool) (h : decide (b < a) = p) (w : World) :
    (do eqGuard .gtr t x y (.int .i64 a) (.int .i64 b); binOp .gtr t (.int .i64 a) (.int .i64 b) : Sem Value).run Tryd.prog w = .ok (.bool p) w := by
  subst h; simp [go_sem]
theorem idx_int (b o n cap k : Nat) (h : k < n) (w : World) : (Instr.indexAt 22 (.slice (some ⟨b, o, none⟩) n cap) (.int .i64 k)).run Tryd.prog w = .ok (.pointer (some ⟨b, o + k, none⟩)) w := by
  simp [go_sem, Instr.indexAt, h]
theorem ints_new1 {w0 w : World} {ρ : Operand → Value} {o : Oper} {x : Operand} {a : Int} (ho : o.op = .buildSlice 22 1 #[(0, x)]) (hx : ρ x = .int .i64 a) (hC : (clOld w0).C w) :
    ∃ u w', (execOp ρ o).run Tryd.prog w = .ok (.value u) w' ∧ (clOld w0).R w w' ∧ ints_w [a] u w' :=
  ints_new (xs := [a]) (by simp [execOp, ho, hx, go_sem, Instr.buildSlice]) hC
end Go.Proofs.YtjifajigigflkaaDoor
namespace Go.Proofs.YtjifajigigflkaaDoor
set_option linter.unusedSimpArgs false
set_option linter.unusedVariables false
open Go Go.RowKit

/-- Places, from i on, whose sets are R, no two of them with a common number. -/
def CovR (ls : List Nat) : Nat → Nat → List Nat → Prop
  | R, _, [] => R = 0
  | R, i, p :: ps => i ≤ p ∧ p < ls.length ∧ ls.getD p 0 ≠ 0 ∧ diff (ls.getD p 0) R = 0 ∧ CovR ls (diff R (ls.getD p 0)) (p + 1) ps
def intL (l : List Nat) : List Int := l.map fun (x : Nat) => (x : Int)
theorem CovR.mono {ls : List Nat} : ∀ {q : List Nat} {R i j : Nat}, CovR ls R j q → i ≤ j → CovR ls R i q
  | [], _, _, _, h, _ => h
  | p :: ps, R, i, j, ⟨h1, h2⟩, hij => ⟨Nat.le_trans hij h1, h2⟩
theorem CovR.zero {ls : List Nat} {i : Nat} : ∀ {q : List Nat}, CovR ls 0 i q → q = []
  | [], _ => rfl
  | p :: ps, ⟨_, _, h3, h4, _⟩ => by
    rw [diff_zero] at h4
    exact absurd h4 h3
theorem cov_sound {ls : List Nat} : ∀ (f R i : Nat) (q : List Nat), i + f = ls.length → cov ls f R i = some q → CovR ls R i q
  | 0, R, i, q, hf, h => by
    unfold cov at h
    split at h
    · rename_i h0; cases h; exact h0
    · cases h
  | f + 1, R, i, q, hf, h => by
    by_cases h0 : R = 0
    · subst h0
      rw [cov_zero] at h; cases h; rfl
    · by_cases hs : ls.getD i 0 = 0 ∨ diff (ls.getD i 0) R ≠ 0
      · rw [cov_skip h0 hs] at h
        exact (cov_sound f R (i + 1) q (by omega) h).mono (by omega)
      · cases hq : cov ls f (diff R (ls.getD i 0)) (i + 1) with
        | some q2 =>
          rw [cov_take h0 hs hq] at h
          cases h
          exact ⟨Nat.le_refl _, by omega, fun e => hs (.inl e), Classical.byContradiction fun e => hs (.inr e), cov_sound f _ (i + 1) q2 (by omega) hq⟩
        | none =>
          rw [cov_drop h0 hs hq] at h
          exact (cov_sound f R (i + 1) q (by omega) h).mono (by omega)
theorem cov_least {ls : List Nat} : ∀ (f R i : Nat) (q : List Nat), i + f = ls.length → CovR ls R i q → ∃ q2, cov ls f R i = some q2 ∧ lessL (intL q) (intL q2) = false
  | f, R, i, [], hf, h => by
    obtain rfl : R = 0 := h
    exact ⟨[], cov_zero ls f i, rfl⟩
  | 0, R, i, p :: ps, hf, ⟨h1, h2, _⟩ => by omega
  | f + 1, R, i, p :: ps, hf, h => by
    by_cases h0 : R = 0
    · subst h0
      cases h.zero
    · have ⟨h1, h2, h3, h4, h5⟩ := h
      by_cases hp : p = i
      · subst hp
        obtain ⟨q2, hq, hl⟩ := cov_least f _ (p + 1) ps (by omega) h5
        refine ⟨p :: q2, cov_take h0 (fun e => e.elim h3 (fun e => e h4)) hq, ?_⟩
        simp only [intL, List.map_cons, lessL, if_pos trivial]
        simpa [intL] using hl
      · have h' : CovR ls R (i + 1) (p :: ps) := ⟨by omega, h2, h3, h4, h5⟩
        by_cases hs : ls.getD i 0 = 0 ∨ diff (ls.getD i 0) R ≠ 0
        · obtain ⟨q2, hq, hl⟩ := cov_least f R (i + 1) (p :: ps) (by omega) h'
          exact ⟨q2, by rw [cov_skip h0 hs]; exact hq, hl⟩
        · cases hq : cov ls f (diff R (ls.getD i 0)) (i + 1) with
          | some q2 =>
            refine ⟨i :: q2, cov_take h0 hs hq, ?_⟩
            simp only [intL, List.map_cons, lessL]
            rw [if_neg (by omega), decide_eq_false_iff_not]
            omega
          | none =>
            obtain ⟨q2, hq2, hl⟩ := cov_least f R (i + 1) (p :: ps) (by omega) h'
            exact ⟨q2, by rw [cov_drop h0 hs hq]; exact hq2, hl⟩
/-- Parts by a number: those that are not empty are the cover. -/
theorem cov_parts {ls : List Nat} (hd : ∀ i j : Nat, i < j → j < ls.length → ls.getD i 0 &&& ls.getD j 0 = 0) : ∀ (f R i : Nat), i + f = ls.length → (∀ n, R.testBit n = true ↔ ∃ j, i ≤ j ∧ j < ls.length ∧ (ls.getD j 0).testBit n = true) →
    cov ls f R i = some ((List.range' i f).filter fun j => decide (ls.getD j 0 ≠ 0))
  | 0, R, i, hf, hR => by
    have h0 : R = 0 := by
      apply Nat.eq_of_testBit_eq; intro n
      rw [Nat.zero_testBit]
      cases hb : R.testBit n with
      | false => rfl
      | true => obtain ⟨j, h1, h2, _⟩ := (hR n).1 hb; omega
    subst h0
    rw [cov_zero]; rfl
  | f + 1, R, i, hf, hR => by
    rw [List.range'_succ, List.filter_cons]
    by_cases hz : ls.getD i 0 = 0
    · have hR' : ∀ n, R.testBit n = true ↔ ∃ j, i + 1 ≤ j ∧ j < ls.length ∧ (ls.getD j 0).testBit n = true := fun n => by
        rw [hR n]
        constructor
        · rintro ⟨j, h1, h2, h3⟩
          refine ⟨j, ?_, h2, h3⟩
          by_cases e : j = i
          · subst e; rw [hz, Nat.zero_testBit] at h3; cases h3
          · omega
        · rintro ⟨j, h1, h2, h3⟩; exact ⟨j, by omega, h2, h3⟩
      have ih := cov_parts hd f R (i + 1) (by omega) hR'
      rw [if_neg (by simp only [decide_eq_true_eq]; exact fun e => e hz)]
      by_cases h0 : R = 0
      · subst h0
        rw [cov_zero] at ih ⊢; exact ih
      · rw [cov_skip h0 (.inl hz)]; exact ih
    · have hin : ∀ n, (ls.getD i 0).testBit n = true → R.testBit n = true := fun n h => (hR n).2 ⟨i, Nat.le_refl _, by omega, h⟩
      have h0 : R ≠ 0 := fun e => by
        apply hz
        apply Nat.eq_of_testBit_eq; intro n
        rw [Nat.zero_testBit]
        cases hb : (ls.getD i 0).testBit n with
        | false => rfl
        | true => have := hin n hb; rw [e, Nat.zero_testBit] at this; cases this
      have hw : diff (ls.getD i 0) R = 0 := by
        apply Nat.eq_of_testBit_eq; intro n
        rw [testBit_diff, Nat.zero_testBit]
        cases hb : (ls.getD i 0).testBit n with
        | false => rfl
        | true => rw [hin n hb]; rfl
      have hR' : ∀ n, (diff R (ls.getD i 0)).testBit n = true ↔ ∃ j, i + 1 ≤ j ∧ j < ls.length ∧ (ls.getD j 0).testBit n = true := fun n => by
        rw [testBit_diff, Bool.and_eq_true, hR n]
        constructor
        · rintro ⟨⟨j, h1, h2, h3⟩, h4⟩
          refine ⟨j, ?_, h2, h3⟩
          by_cases e : j = i
          · subst e; rw [h3] at h4; cases h4
          · omega
        · rintro ⟨j, h1, h2, h3⟩
          refine ⟨⟨j, by omega, h2, h3⟩, ?_⟩
          have := congrArg (·.testBit n) (hd i j (by omega) h2)
          simp only [Nat.testBit_and, Nat.zero_testBit, h3, Bool.and_true] at this
          rw [this]; rfl
      rw [cov_take h0 (fun e => e.elim hz fun e => e hw) (cov_parts hd f _ (i + 1) (by omega) hR'), if_pos (by simp only [decide_eq_true_eq]; exact hz)]
end Go.Proofs.YtjifajigigflkaaDoor
namespace Go.Proofs.YtjifajigigflkaaDoor
set_option linter.unusedSimpArgs false
set_option linter.unusedVariables false
open Go Go.RowKit

/-- The numbers of l with rest j. -/
def partB (P : Nat) (l : List Nat) (j : Nat) : Nat := l.foldl (fun s x => if x % P = j then s ||| 2 ^ x else s) 0
theorem partB_snoc (P : Nat) (l : List Nat) (x : Nat) : updN (partB P l) (x % P) (partB P l (x % P) ||| 2 ^ x) = partB P (l ++ [x]) := by
  funext j
  unfold updN partB
  rw [List.foldl_append]
  simp only [List.foldl_cons, List.foldl_nil]
  by_cases h : j = x % P
  · subst h; simp
  · rw [if_neg h, if_neg (fun e => h e.symm)]
theorem partB_bit (P : Nat) (j n : Nat) : ∀ l : List Nat, (partB P l j).testBit n = true ↔ n ∈ l ∧ n % P = j := by
  have key : ∀ (l : List Nat) (s : Nat), (l.foldl (fun s x => if x % P = j then s ||| 2 ^ x else s) s).testBit n = true ↔ s.testBit n = true ∨ (n ∈ l ∧ n % P = j) := by
    intro l
    induction l with
    | nil => intro s; simp
    | cons x l ih =>
      intro s
      rw [List.foldl_cons, ih]
      by_cases h : x % P = j
      · rw [if_pos h, Nat.testBit_or, Nat.testBit_two_pow]
        simp only [Bool.or_eq_true, decide_eq_true_eq, List.mem_cons]
        constructor
        · rintro ((h1 | h1) | h1)
          · exact .inl h1
          · exact .inr ⟨.inl h1.symm, by rw [← h1]; exact h⟩
          · exact .inr ⟨.inr h1.1, h1.2⟩
        · rintro (h1 | ⟨h1 | h1, h2⟩)
          · exact .inl (.inl h1)
          · exact .inl (.inr h1.symm)
          · exact .inr ⟨h1, h2⟩
      · rw [if_neg h]
        simp only [List.mem_cons]
        constructor
        · rintro (h1 | h1)
          · exact .inl h1
          · exact .inr ⟨.inr h1.1, h1.2⟩
        · rintro (h1 | ⟨h1 | h1, h2⟩)
          · exact .inl h1
          · rw [h1] at h2; exact absurd h2 h
          · exact .inr ⟨h1, h2⟩
  intro l
  unfold partB
  rw [key]
  simp
theorem partB_lt {P : Nat} {l : List Nat} (hl : ∀ x ∈ l, x < 256) (j : Nat) : partB P l j < 2 ^ 256 := by
  apply Nat.lt_pow_two_of_testBit
  intro i hi
  cases h : (partB P l j).testBit i with
  | false => rfl
  | true => have := hl i ((partB_bit P j i l).1 h).1; omega
/-- The sets of all rests. -/
def partL (P N : Nat) : List Nat := (List.range P).map (partB P (mem N))
theorem partL_length (P N : Nat) : (partL P N).length = P := by simp [partL]
theorem partL_get (P N i : Nat) (h : i < P) : (partL P N)[i]? = some (partB P (mem N) i) := by simp [partL, h]
theorem partL_getD (P N i : Nat) (h : i < P) : (partL P N).getD i 0 = partB P (mem N) i := by rw [List.getD_eq_getElem?_getD, partL_get P N i h]; rfl
theorem mem_lt {N x : Nat} (h : x ∈ mem N) : x < 256 := by have := (memF_iff.1 h).2.1; omega
/-- Which rests there are, below i. -/
def restL (P N i : Nat) : List Nat := (List.range' 0 i).filter fun j => decide ((partL P N).getD j 0 ≠ 0)
theorem restL_succ (P N i : Nat) : restL P N (i + 1) = if (partL P N).getD i 0 = 0 then restL P N i else restL P N i ++ [i] := by
  unfold restL
  rw [List.range'_1_concat, List.filter_append, Nat.zero_add]
  by_cases h : (partL P N).getD i 0 = 0
  · rw [if_pos h]
    rw [List.getD_eq_getElem?_getD] at h
    simp [h]
  · rw [if_neg h]
    rw [List.getD_eq_getElem?_getD] at h
    simp [h]
theorem restL_len (P N i : Nat) : (restL P N i).length ≤ i := by
  unfold restL
  exact Nat.le_trans (List.length_filter_le _ _) (by simp)
theorem cov_rests {P N : Nat} (hN : N < 2 ^ 256) (hP : 0 < P) : cov (partL P N) P N 0 = some (restL P N P) := by
  refine cov_parts (fun i j hij hj => ?_) P N 0 (by rw [partL_length]; omega) fun n => ?_
  · rw [partL_length] at hj
    rw [partL_getD P N i (by omega), partL_getD P N j hj]
    apply Nat.eq_of_testBit_eq; intro n
    rw [Nat.testBit_and, Nat.zero_testBit]
    cases h1 : (partB P (mem N) i).testBit n with
    | false => rfl
    | true =>
      cases h2 : (partB P (mem N) j).testBit n with
      | false => rfl
      | true =>
        have a1 := ((partB_bit P i n (mem N)).1 h1).2
        have a2 := ((partB_bit P j n (mem N)).1 h2).2
        omega
  · rw [partL_length]
    constructor
    · intro h
      refine ⟨n % P, Nat.zero_le _, Nat.mod_lt _ hP, ?_⟩
      rw [partL_getD P N _ (Nat.mod_lt _ hP), partB_bit]
      exact ⟨(mem_iff hN).2 h, rfl⟩
    · rintro ⟨j, _, hj, h⟩
      rw [partL_getD P N j hj, partB_bit] at h
      exact (mem_iff hN).1 h.1
theorem card_zero {x : Nat} (hx : x < 2 ^ 256) : card x = 0 ↔ x = 0 := by
  constructor
  · intro h
    rw [← mem_card] at h
    have hm : mem x = [] := List.length_eq_zero_iff.1 h
    apply zero_of_bits hx
    intro i hi
    cases hb : x.testBit i with
    | false => rfl
    | true => have := (mem_iff hx).2 hb; rw [hm] at this; cases this
  · rintro rfl; decide +kernel
/-! ### The table in memory -/
theorem beA_cells {W : World} {b M : Nat} {be : Nat → Nat} (h : Blk W b (beA M be) 25) {r : Nat} (hr : r < M) : W.cell? ⟨b, r * 4, none⟩ = some (.int .u64 (word (be r) 0)) ∧ W.cell? ⟨b, r * 4 + 1, none⟩ = some (.int .u64 (word (be r) 1)) ∧ W.cell? ⟨b, r * 4 + 2, none⟩ = some (.int .u64 (word (be r) 2)) ∧ W.cell? ⟨b, r * 4 + 3, none⟩ = some (.int .u64 (word (be r) 3)) ∧ ∀ i, W.frozen? ⟨b, i, none⟩ = false := by
  refine ⟨?_, ?_, ?_, ?_, fun i => h.frozen i⟩
  · rw [h.cell, beA_get M be _ (by omega), show r * 4 / 4 = r by omega, show r * 4 % 4 = 0 by omega]
  · rw [h.cell, beA_get M be _ (by omega), show (r * 4 + 1) / 4 = r by omega, show (r * 4 + 1) % 4 = 1 by omega]
  · rw [h.cell, beA_get M be _ (by omega), show (r * 4 + 2) / 4 = r by omega, show (r * 4 + 2) % 4 = 2 by omega]
  · rw [h.cell, beA_get M be _ (by omega), show (r * 4 + 3) / 4 = r by omega, show (r * 4 + 3) % 4 = 3 by omega]
theorem beA_put {W : World} {b M : Nat} {be : Nat → Nat} (h : Blk W b (beA M be) 25) {r : Nat} (hr : r < M) (s : Nat) :
    Blk ((((W.setCell ⟨b, r * 4, none⟩ (.int .u64 ↑(word s 0))).setCell ⟨b, r * 4 + 1, none⟩ (.int .u64 ↑(word s 1))).setCell ⟨b, r * 4 + 2, none⟩ (.int .u64 ↑(word s 2))).setCell ⟨b, r * 4 + 3, none⟩ (.int .u64 ↑(word s 3))) b (beA M (updN be r s)) 25 := by
  have := (((h.set (r * 4) (.int .u64 ↑(word s 0))).set (r * 4 + 1) (.int .u64 ↑(word s 1))).set (r * 4 + 2) (.int .u64 ↑(word s 2))).set (r * 4 + 3) (.int .u64 ↑(word s 3))
  rwa [beA_set M be r s hr] at this
theorem beA_sets {W : World} {b P N : Nat} (h : Blk W b (beA P (partB P (mem N))) 25) : SetCells W (some ⟨b, 0, none⟩) (partL P N) := by
  refine .inr ⟨b, 0, rfl, fun i M hi j hj => ?_⟩
  have hi' : i < P := by have := (List.getElem?_eq_some_iff.1 hi).1; rwa [partL_length] at this
  rw [partL_get P N i hi'] at hi
  obtain rfl := Option.some.inj hi
  rw [h.cell, beA_get P _ _ (by omega), show (0 + i * 4 + j) / 4 = i by omega, show (0 + i * 4 + j) % 4 = j by omega]
theorem below_putr {B : Nat} {w w' : World} {b : Nat} (h : Below B w w') (hb : B ≤ b) (i j k l : Nat) (x y z u : Value) : Below B w ((((w'.setCell ⟨b, i, none⟩ x).setCell ⟨b, j, none⟩ y).setCell ⟨b, k, none⟩ z).setCell ⟨b, l, none⟩ u) :=
  (((h.setCell (p := ⟨b, i, none⟩) hb x).setCell (p := ⟨b, j, none⟩) hb y).setCell (p := ⟨b, k, none⟩) hb z).setCell (p := ⟨b, l, none⟩) hb u
theorem Blk.otherr {W : World} {b c : Nat} {cs : Array Value} {t : TypeId} (h : Blk W b cs t) (hne : b ≠ c) (i j k l : Nat) (x y z u : Value) : Blk ((((W.setCell ⟨c, i, none⟩ x).setCell ⟨c, j, none⟩ y).setCell ⟨c, k, none⟩ z).setCell ⟨c, l, none⟩ u) b cs t :=
  (((h.other ⟨c, i, none⟩ x hne).other ⟨c, j, none⟩ y hne).other ⟨c, k, none⟩ z hne).other ⟨c, l, none⟩ u hne
end Go.Proofs.YtjifajigigflkaaDoor
namespace Go.Proofs.YtjifajigigflkaaDoor
set_option linter.unusedSimpArgs false
set_option linter.unusedVariables false
open Go Go.RowKit
attribute [local go_sem] equalIn_words setV

/-- What the law's loops keep. -/
def PtS (N P : Nat) (b2 bL : Nat) (be : Nat → Nat) (w W : World) : Prop := Gl W ∧ Below w.heap.size w W ∧ Blk W b2 (setA N) 25 ∧ Blk W bL (beA P be) 25
theorem PtS.below {N P b2 bL : Nat} {be : Nat → Nat} {w W W' : World} (h : PtS N P b2 bL be w W) (hb : Below W.heap.size W W') : PtS N P b2 bL be w W' :=
  ⟨h.1.below hb, h.2.1.trans (hb.mono h.2.1.size), h.2.2.1.below hb h.2.2.1.lt, h.2.2.2.below hb h.2.2.2.lt⟩
theorem PtS.put {N P b2 bL : Nat} {be : Nat → Nat} {w W : World} (h : PtS N P b2 bL be w W) (h6 : 6 ≤ bL) (hw : w.heap.size ≤ bL) (hne : b2 ≠ bL) {r : Nat} (hr : r < P) (s : Nat) :
    PtS N P b2 bL (updN be r s) w ((((W.setCell ⟨bL, r * 4, none⟩ (.int .u64 ↑(word s 0))).setCell ⟨bL, r * 4 + 1, none⟩ (.int .u64 ↑(word s 1))).setCell ⟨bL, r * 4 + 2, none⟩ (.int .u64 ↑(word s 2))).setCell ⟨bL, r * 4 + 3, none⟩ (.int .u64 ↑(word s 3))) :=
  ⟨h.1.same (fun k hk => by
      rw [Below.heap_setCell _ _ _ _ (by show k ≠ bL; omega), Below.heap_setCell _ _ _ _ (by show k ≠ bL; omega), Below.heap_setCell _ _ _ _ (by show k ≠ bL; omega), Below.heap_setCell _ _ _ _ (by show k ≠ bL; omega)]) (by simp [World.setCell]),
   below_putr h.2.1 hw _ _ _ _ _ _ _ _, h.2.2.1.otherr hne _ _ _ _ _ _ _ _, beA_put h.2.2.2 hr s⟩
theorem Cells.otherr {W : World} {rb c : Nat} {vs : List Value} (h : Cells W (some ⟨rb, 0, none⟩) vs) (hne : rb ≠ c) (i j k l : Nat) (x y z u : Value) : Cells ((((W.setCell ⟨c, i, none⟩ x).setCell ⟨c, j, none⟩ y).setCell ⟨c, k, none⟩ z).setCell ⟨c, l, none⟩ u) (some ⟨rb, 0, none⟩) vs := by
  rcases h with h | ⟨b, o, ha, hc⟩
  · exact .inl h
  · cases ha
    refine .inr ⟨rb, 0, rfl, fun m v hm => ?_⟩
    rw [World.cell?_of_block (w := W)]
    · exact hc m v hm
    · show _ = W.heap[rb]?
      rw [Below.heap_setCell _ _ _ _ (by exact hne), Below.heap_setCell _ _ _ _ (by exact hne), Below.heap_setCell _ _ _ _ (by exact hne), Below.heap_setCell _ _ _ _ (by exact hne)]
theorem ints_eq (a a' : Option Addr) (cap cap' k : Nat) (xs : List Nat) (w : World) (hk : k = xs.length) (hk2 : k ≤ 256) (hx : Cells w a (intsL xs)) (hy : Cells w a' (intsL xs)) :
    Calls Tryd.prog 25 #[.slice a k cap, .slice a' k cap'] w fun e w' => e = .returned (.bool true) ∧ Below w.heap.size w w' := by
  have hm : intsL xs = (xs.map fun (x : Nat) => (x : Int)).map (Value.int .i64) := by unfold intsL; rw [List.map_map]; rfl
  have := ints_any a a' cap cap' (xs.map fun (x : Nat) => (x : Int)) (xs.map fun (x : Nat) => (x : Int)) w (by rw [← hm]; exact hx) (by rw [← hm]; exact hy) (by rw [List.length_map]; omega) (by rw [List.length_map]; omega)
  rw [List.length_map, ← hk] at this
  simpa using this
theorem cover_rests {N P bL : Nat} (hN : N < 2 ^ 256) (hP : 1 ≤ P) (hP2 : P ≤ 16) (W : World) (hB : Blk W bL (beA P (partB P (mem N))) 25) :
    Calls Tryd.prog 53 #[setV N, .slice (some ⟨bL, 0, none⟩) P P] W fun e w' => ∃ a cap, e = .returned (.tuple #[.slice a (restL P N P).length cap, .bool true, .int .i64 0]) ∧ Cells w' a (intsL (restL P N P)) ∧ Below W.heap.size W w' := by
  have h := cover_any N (some ⟨bL, 0, none⟩) P (partL P N) W hN (fun M hM => by
    obtain ⟨j, _, rfl⟩ := List.mem_map.1 hM
    exact partB_lt (fun x hx => mem_lt hx) j) (by rw [partL_length]; omega) (beA_sets hB) (fun ad e => by cases e; exact hB.lt)
  rw [partL_length] at h
  refine h.mono fun e w' hp => ?_
  unfold CoverPost at hp
  rw [partL_length, cov_rests hN (by omega)] at hp
  obtain ⟨hb, (⟨h1, _⟩ | ⟨_, h1, _⟩ | ⟨_, q, v, h1, h2, h3⟩)⟩ := hp
  · omega
  · cases h1
  · obtain rfl : restL P N P = q := Option.some.inj h1
    obtain ⟨_, a, cap, rfl, hc, _⟩ := ownsRow_cells h3
    exact ⟨a, cap, h2, hc, hb⟩
theorem load_int_q {w : World} {p : Addr} {x : Int} (h : w.cell? p = some (.int .i64 x)) : (Instr.loadAt 3 (.pointer (some p))).run Tryd.prog w = .ok (.int .i64 x) w := by
  simp [go_sem, h]
theorem rem_int (t : TypeId) (x y : Operand) (a b r : Nat) (hr : r = a % b) (hb : 1 ≤ b) (ha : a < 256) (hb2 : b ≤ 16) (w : World) :
    (do eqGuard .rem t x y (.int .i64 a) (.int .i64 b); binOp .rem t (.int .i64 a) (.int .i64 b) : Sem Value).run Tryd.prog w = .ok (.int .i64 r) w := by
  subst hr
  have h1 : ¬ (b : Int) = 0 := by omega
  have h2 : ¬ b = 0 := by omega
  have h3 : ((a : Int).tmod (b : Int)) = ((a % b : Nat) : Int) := rfl
  simp [go_sem, h1, h2, h3]
theorem idx_set (b n cap k : Nat) (h : k < n) (w : World) : (Instr.indexAt 54 (.slice (some ⟨b, 0, none⟩) n cap) (.int .i64 k)).run Tryd.prog w = .ok (.pointer (some ⟨b, k * 4, none⟩)) w := by
  simp [go_sem, Instr.indexAt, h]
theorem cells_at' {W : World} {rb ro k : Nat} {vs : List Value} {v : Value} (h : Cells W (some ⟨rb, ro, none⟩) vs) (hk : vs[k]? = some v) : W.cell? ⟨rb, ro + k, none⟩ = some v := by
  rcases h with h | ⟨b, o, ha, hc⟩
  · rw [h] at hk; cases hk
  · cases ha; exact hc k v hk
set_option maxRecDepth 100000 in
set_option maxHeartbeats 4000000 in
theorem bitsParts_any (hsane : SaneOk) (N : Nat) (p : Int) (w : World) (hg : Gl w) (hN : N < 2 ^ 256) (hp : -9223372036854775808 ≤ p ∧ p ≤ 9223372036854775807) :
    Calls Tryd.prog 15 #[setV N, .int .i64 p] w fun e w' => e = .returned (.bool true) ∧ Below w.heap.size w w' := by
  have HS : Hid SaneOk := hsane
  have HG := Lib.hid hg
  have HG6 : 6 ≤ w.heap.size := hg.size
  have HGw := Lib.hid hg
  have HNL := Lib.hid hN
  clear hg hN hsane
  by_cases hpr : 1 ≤ p ∧ p ≤ 16
  · obtain ⟨P, rfl⟩ := Int.eq_ofNat_of_zero_le (show 0 ≤ p by omega)
    have hP1 : 1 ≤ P := by omega
    have hP2 : P ≤ 16 := by omega
    clear hp hpr
    obtain ⟨ml, hml⟩ : ∃ ml, ml = (mem N).length := ⟨_, rfl⟩
    have hml6 : ml ≤ 256 := by rw [hml]; exact mem_length N
    have HML := Lib.hid hml
    have HMe : Hid (∀ w, Gl w → Calls Tryd.prog 26 #[setV N] w fun e w' => ∃ a cap, e = .returned (.slice a ml cap) ∧ Cells w' a (intsL (mem N)) ∧ (intsL (mem N) = [] ∨ ∃ b, a = some ⟨b, 0, none⟩ ∧ w.heap.size ≤ b) ∧ Below w.heap.size w w') := fun w hg =>
      (members_any N w hg).mono fun e w' ⟨v, he, hr, hb⟩ => by
        obtain ⟨_, a, cap, hv, hc, hbs⟩ := ownsRow_cells hr
        exact ⟨a, cap, by rw [he, hv, hml], hc, hbs, hb⟩
    clear hml
    obtain ⟨i0, hi0, hz0, hz1, hz2⟩ := info_parts infoSet
    go_enter Tryd.func15, Tryd.ntmps15
    simp only [setV]
    go_upto_region 3 with (first | (go_at_call 16; refine (HS.out _ (HG.out.below (below_new1 _ _))).mono ?_; rintro e w2 ⟨rfl, hb⟩))
    refine named (fun V => Gl V ∧ Below w.heap.size w V ∧ Blk V w.heap.size (setA N) 25) ⟨(HG.out.below (below_new1 _ _)).below hb, (below_new1 _ _).trans (hb.mono (by simp)), (Blk.newW _ _ _).below hb (by simp)⟩ ?_
    clear hb HS HG
    rintro W0 ⟨FG, FB, K2⟩
    replace FG := Lib.hid FG; replace FB := Lib.hid FB; replace K2 := Lib.hid K2
    generalize hb2 : w.heap.size = b2 at K2 ⊢
    have L2 := Lib.hid hb2
    clear hb2
    go_upto_region 6 with (first | (at_make; refine wpList_make_full _ rfl _ _ 54 rfl 0 25 i0 _ 4 Tryd.underlying54 hi0 hz0 hz1 .i64 .i64 (P : Int) (P : Int) P rfl rfl rfl rfl (by rw [hz2]; omega) (by simp only [maxLen]; omega) (Nat.zero_le _) ?_; intro V1 hown hgr; have HB1 := Lib.hid (owns_full hown); have HV1 : Hid (Below W0.heap.size W0 V1) := ⟨hgr.os, hgr.tape, hgr.output, hgr.size, fun k hk => hgr.block k hk (by simp)⟩; clear hown hgr))
    refine named (fun V => PtS N P b2 W0.heap.size (partB P []) w V) ⟨FG.out.below HV1.out, FB.out.trans (HV1.out.mono FB.out.size), K2.out.below HV1.out K2.out.lt, by rw [made_be] at HB1; exact HB1.out⟩ ?_
    have L5 : Hid (b2 < W0.heap.size ∧ w.heap.size ≤ W0.heap.size) := ⟨K2.out.lt, FB.out.size⟩
    clear FG FB K2 HB1 HV1 hi0 hz0 hz1 hz2
    rintro W1 F
    replace F := Lib.hid F
    generalize W0.heap.size = bL at F L5 ⊢
    obtain ⟨c0, c1, c2, c3, cf⟩ := F.out.2.2.1.set4
    go_upto_region 7 with (first | (go_at_call 26; refine (HMe.out _ F.out.1).mono ?_; rintro e w2 ⟨a6, cap6, rfl, hc6, h6, hb⟩))
    have HC6 := Lib.hid hc6
    have HA6 : Hid (intsL (mem N) = [] ∨ ∃ b, a6 = some ⟨b, 0, none⟩ ∧ bL < b) := by
      rcases h6 with h | ⟨b, h1, h2⟩
      · exact .inl h
      · exact .inr ⟨b, h1, Nat.lt_of_lt_of_le F.out.2.2.2.lt h2⟩
    have F2 := Lib.hid (F.out.below hb)
    clear hb hc6 h6 F c0 c1 c2 c3 cf HMe
    go_wp2_with fail
    go_loopw [7] (fun ti wr => ∃ k : Nat, k ≤ ml ∧ ti = .int .i64 k ∧ PtS N P b2 bL (partB P ((mem N).take k)) w wr ∧ Cells wr a6 (intsL (mem N))) (fun ti _ => ml - (intOf ti).toNat)
    case atStart => exact ⟨0, Nat.zero_le _, rfl, F2.out, HC6.out⟩
    case round =>
      obtain ⟨k, hk, rfl, hS, hC⟩ := hrel
      have FS := Lib.hid hS
      have FC := Lib.hid hC
      clear hS hC F2 HC6
      by_cases hlt : k < ml
      · obtain ⟨x, hx⟩ : ∃ x, x = (mem N)[k]'(by rw [← HML.out]; exact hlt) := ⟨_, rfl⟩
        have hget : (intsL (mem N))[k]? = some (.int .i64 (x : Int)) := by
          unfold intsL
          rw [List.getElem?_map, List.getElem?_eq_getElem (by rw [← HML.out]; exact hlt), ← hx]; rfl
        have HX : Hid ((mem N).take (k + 1) = (mem N).take k ++ [x]) := by
          rw [Hid, List.take_succ_eq_append_getElem (by rw [← HML.out]; exact hlt), ← hx]
        have hx6 : x < 256 := mem_lt (N := N) (by rw [hx]; exact List.getElem_mem _)
        obtain ⟨rb, ha, hrb⟩ : ∃ rb, a6 = some ⟨rb, 0, none⟩ ∧ bL < rb := by
          rcases HA6.out with h | h
          · rw [h] at hget; cases hget
          · exact h
        subst ha
        have hcj := cells_at' FC.out hget
        rw [Nat.zero_add] at hcj
        obtain ⟨r, hr⟩ : ∃ r, r = x % P := ⟨_, rfl⟩
        have hrP : r < P := by rw [hr]; exact Nat.mod_lt _ (by omega)
        have hr1 : x % P = r := hr.symm
        have hr2 : (x : Int).tmod (P : Int) = (r : Int) := by rw [hr]; rfl
        have hr3 : (x : Int) % (P : Int) = (r : Int) := by rw [hr]; simp
        have HR := Lib.hid hr
        obtain ⟨M, hM⟩ : ∃ M, M = partB P ((mem N).take k) r := ⟨_, rfl⟩
        have HM := Lib.hid hM
        obtain ⟨e0, e1, e2, e3, ef⟩ := beA_cells FS.out.2.2.2 hrP
        rw [← hM] at e0 e1 e2 e3
        have HWi : Hid (∀ w, Calls Tryd.prog 19 #[setV M, .int .i64 (x : Int)] w fun e w' => e = .returned (.tuple #[setV (M ||| 2 ^ x), .int .i64 0]) ∧ Below w.heap.size w w') := fun w => with_in M x w hx6
        obtain ⟨M2, hM2⟩ : ∃ M2, M2 = M ||| 2 ^ x := ⟨_, rfl⟩
        rw [← hM2] at HWi
        have HM2 := Lib.hid hM2
        have HGET := Lib.hid hget
        clear hx hget hr hM hM2
        have hlrb : rb < wr.heap.size := block_lt_of_cell hcj
        have hlbL : bL < wr.heap.size := FS.out.2.2.2.lt
        have hdr : wr.drew.heap.size = wr.heap.size := rfl
        go_upto_region 12 with (fail)
        go_cut [8, 9] (fun s8 s9 wx => ∃ g : Nat, s8 = .pointer (some ⟨g, 0, none⟩) ∧ s9 = .int .i64 0 ∧ PtS N P b2 bL (partB P ((mem N).take k)) w wx ∧ Cells wx (some ⟨rb, 0, none⟩) (intsL (mem N)) ∧ Blk wx g (setA M2) 25)
        case first =>
          go_region_with (go_at_call 19; refine (HWi.out _).mono ?_; rintro e w9 ⟨rfl, hb⟩; obtain ⟨hce, hfe⟩ := bcell hb; have hsz := hb.size; have Hb := Lib.hid hb; clear hb; simp only [setV])
          all_goals
            go_wp2_with fail
            go_meet
            first
              | (have hA : Below wr.heap.size wr w9 := (Below.refl _ wr).drew.trans Hb.out; exact ⟨w9.heap.size, rfl, rfl, (FS.out.below hA).below (below_new1 _ _), (FC.out.below hA).below (below_new1 _ _), Blk.newW _ _ _⟩)
              | (have hB := below_put4 ((below_new1 wr (.cells #[.int .u64 0, .int .u64 0, .int .u64 0, .int .u64 0] 25)).drew.trans (Hb.out.mono (by simp))) (Nat.le_refl _) (.int .u64 ↑(word M2 0)) (.int .u64 ↑(word M2 1)) (.int .u64 ↑(word M2 2)) (.int .u64 ↑(word M2 3)); exact ⟨wr.heap.size, rfl, rfl, FS.out.below hB, FC.out.below hB, ((Blk.newS wr _).drew.below Hb.out (by simp)).putS M2⟩)
        case rest =>
          obtain ⟨g, rfl, rfl, hS, hC, hg⟩ := hcut
          have GS := Lib.hid hS; have GC := Lib.hid hC; have GG := Lib.hid hg
          clear hS hC hg FS FC e0 e1 e2 e3 ef hcj HWi hlrb hlbL hdr
          go_upto_region 15 with (fail)
          refine wp_region_old 9 105 (by kernel_rfl) (by kernel_rfl) (by rfl) ?_
          simp only [List.take_succ_cons, List.take_zero, List.drop_succ_cons, List.drop_zero, List.drop_nil]
          refine chain_move (.slice (some ⟨bL, 0, none⟩) P P) _ (fun _ _ => Below.refl _ _) rfl rfl (by kernel_rfl) (by kernel_rfl) rfl ?_
          refine chain_move (.slice (some ⟨rb, 0, none⟩) ml cap6) _ (fun _ _ => Below.refl _ _) rfl rfl (by kernel_rfl) (by kernel_rfl) rfl ?_
          refine chain_move (.int .i64 k) _ (fun _ _ => Below.refl _ _) rfl rfl (by kernel_rfl) (by kernel_rfl) rfl ?_
          refine chain_idx (.pointer (some ⟨rb, 0 + k, none⟩)) _ _ _ (.slice (some ⟨rb, 0, none⟩) ml cap6) (.int .i64 k) (fun _ _ => Below.refl _ _) rfl rfl (by kernel_rfl) (by kernel_rfl) rfl rfl (fun w1 => idx_int _ _ _ _ _ hlt w1) ?_
          refine chain_load (.int .i64 (x : Int)) _ _ _ (fun _ _ => Below.refl _ _) rfl rfl (by kernel_rfl) (by kernel_rfl) rfl (fun w1 hC => load_int_q (cells_at' (Cells.below (w := wc.drew) GC.out hC) HGET.out)) ?_
          refine chain_move (.int .i64 P) _ (fun _ _ => Below.refl _ _) rfl rfl (by kernel_rfl) (by kernel_rfl) rfl ?_
          refine chain_bin (.int .i64 r) _ _ _ _ _ (.int .i64 (x : Int)) (.int .i64 P) (fun _ _ => Below.refl _ _) rfl rfl (by kernel_rfl) (by kernel_rfl) rfl rfl (fun w1 => rem_int _ _ _ x P r HR.out hP1 hx6 hP2 w1) ?_
          refine chain_load (setV M2) _ _ _ (fun _ _ => Below.refl _ _) rfl rfl (by kernel_rfl) (by kernel_rfl) rfl (fun w1 hC => load_set (GG.out.drew.below hC GG.out.lt)) ?_
          refine chain_idx (.pointer (some ⟨bL, r * 4, none⟩)) _ _ _ (.slice (some ⟨bL, 0, none⟩) P P) (.int .i64 r) (fun _ _ => Below.refl _ _) rfl rfl (by kernel_rfl) (by kernel_rfl) rfl rfl (fun w1 => idx_set _ _ _ _ hrP w1) ?_
          refine chain_end (by rfl) ?_
          intro xs w5 hCw5 hrew5
          simp only [layE, List.foldr_cons, List.foldr_nil, List.set_cons_succ, List.set_cons_zero]
          have G5 := Lib.hid (GS.out.below ((Below.refl _ wc).drew.trans hCw5))
          have C5 := Lib.hid (GC.out.below ((Below.refl _ wc).drew.trans hCw5))
          obtain ⟨e0, e1, e2, e3, ef⟩ := beA_cells G5.out.2.2.2 hrP
          clear hCw5 hrew5 GS GC GG
          simp only [setV]
          go_wp2_with fail
          have hbe : updN (partB P ((mem N).take k)) r M2 = partB P ((mem N).take (k + 1)) := by rw [HX.out, ← partB_snoc, ← HR.out, HM2.out, HM.out]
          have hp := G5.out.put (by have := L5.out; omega) (by have := L5.out; omega) (by have := L5.out; omega) hrP M2
          rw [hbe] at hp
          exact ⟨⟨k + 1, by omega, by simp, hp, C5.out.otherr (by omega) _ _ _ _ _ _ _ _⟩, by simp [intOf]; omega⟩
      · have FT : Hid (PtS N P b2 bL (partB P (mem N)) w wr) := by
          have := FS.out
          rwa [List.take_of_length_le (by rw [← HML.out]; omega)] at this
        obtain ⟨j0, hj0, hy0, hy1, hy2⟩ := info_parts infoInt
        clear FS FC HA6
        go_upto_region 17 with (fail)
        go_wp2_with fail
        go_loopw [10, 11] (fun ta ti wr => ∃ i : Nat, i ≤ P ∧ ti = .int .i64 i ∧ PtS N P b2 bL (partB P (mem N)) w wr ∧ wr.ownsRow w.heap.size 3 1 ta (restL P N i).length (intsL (restL P N i))) (fun _ ti _ => P - (intOf ti).toNat)
        case atStart => exact ⟨0, Nat.zero_le _, rfl, FT.out, World.ownsRow_nil _ _ _ _⟩
        case round =>
          obtain ⟨i, hi, rfl, hS, hO⟩ := hrel
          have GS := Lib.hid hS
          have GO := Lib.hid hO
          clear hS hO FT
          obtain ⟨L, hL⟩ : ∃ L, L = (restL P N i).length := ⟨_, rfl⟩
          have hLi : L ≤ 16 := by have := restL_len P N i; omega
          have HL := Lib.hid hL
          clear hL
          by_cases hip : i < P
          · obtain ⟨s, hs⟩ : ∃ s, s = partB P (mem N) i := ⟨_, rfl⟩
            have hs6 : s < 2 ^ 256 := by rw [hs]; exact partB_lt (fun x hx => mem_lt hx) i
            have HSg : Hid ((partL P N).getD i 0 = s) := by rw [Hid, partL_getD P N i hip, hs]
            obtain ⟨e0, e1, e2, e3, ef⟩ := beA_cells GS.out.2.2.2 hip
            rw [← hs] at e0 e1 e2 e3
            have HSz : Hid (∀ w, Calls Tryd.prog 37 #[setV s] w fun e w' => e = .returned (.int .i64 (card s : Nat)) ∧ Below w.heap.size w w') := fun w => size_any s w
            have hcz := card_zero hs6
            have hlr : (restL P N i).length ≤ 16 := by rw [← HL.out]; exact hLi
            clear hs hs6
            generalize card s = c at hcz HSz
            by_cases hz : s = 0
            · have hc : c = 0 := hcz.2 hz
              have HR : Hid (restL P N (i + 1) = restL P N i) := by rw [Hid, restL_succ, HSg.out, if_pos hz]
              have hc' : decide (0 < c) = false := decide_eq_false (by omega)
              clear hcz hz
              have HC0 := Lib.hid hc
              have hcl : c ≤ 0 := by omega
              clear hc
              go_wp2_with (first | (go_at_call 37; refine (HSz.out _).mono ?_; rintro e w5 ⟨rfl, hb⟩))
              exact ⟨⟨i + 1, by omega, by simp, GS.out.below hb, by rw [HR.out]; exact ownsRow_below GO.out hb⟩, by simp [intOf]; omega⟩
            · have hc : 0 < c := by
                by_cases h : c = 0
                · exact absurd (hcz.1 h) hz
                · omega
              have HR : Hid (restL P N (i + 1) = restL P N i ++ [i]) := by rw [Hid, restL_succ, HSg.out, if_neg hz]
              clear hcz hz
              go_wp2_with (first | (go_at_call 37; refine (HSz.out _).mono ?_; rintro e w5 ⟨rfl, hb⟩; have GS2 := Lib.hid (GS.out.below hb); have GO2 := Lib.hid (ownsRow_below GO.out hb); clear hb) | (at_builtin; refine wpList_append_own _ rfl _ _ 22 rfl w.heap.size 3 j0 _ 1 8 Tryd.underlying22 hj0 hy0 hy1 hy2 rfl (by decide) u10 (restL P N i).length (intsL (restL P N i)) rfl (GO2.out.alloc _) ⟨w5.heap.size, 0, none⟩ 1 1 [.int .i64 (i : Int)] rfl rfl (cell_one_new _ _ _) (by simp [Value.oneCell']) (by simp only [maxLen]; omega) (by omega) (by have := GS2.out.2.1.size; simp; omega) ?_; intro v2 w6 hown' hgrow _; have K6O := Lib.hid hown'; have hq : Below w.heap.size w (w5.alloc (.cells #[.int .i64 (i : Int)] 3)) := GS2.out.2.1.alloc GS2.out.2.1.size _; have hq2 : Below w.heap.size w w6 := hq.grown hgrow hq.size (fun k hk => (World.ownsRow.lt GO2.out k hk).1); have K6 : Hid (PtS N P b2 bL (partB P (mem N)) w w6) := ⟨HGw.out.below hq2, hq2, blk_grown (GS2.out.2.2.1.alloc _) (by decide) (GO2.out.alloc _) hgrow, blk_grown (GS2.out.2.2.2.alloc _) (by decide) (GO2.out.alloc _) hgrow⟩; clear hq hq2 hown' hgrow))
              exact ⟨⟨i + 1, by omega, by simp, K6.out, by rw [HR.out, intsL_snoc, List.length_append]; simpa using K6O.out⟩, by simp [intOf]; omega⟩
          · have hiP : i = P := by omega
            have HO := GO.out
            rw [hiP] at HO
            have HL2 : Hid (L = (restL P N P).length) := by rw [Hid, HL.out, hiP]
            obtain ⟨_, p10, cap10, hu, hc10, _⟩ := ownsRow_cells HO
            rw [← HL2.out] at hu
            subst hu
            have HC10 := Lib.hid hc10
            have HCo : Hid (∀ W, Blk W bL (beA P (partB P (mem N))) 25 → Calls Tryd.prog 53 #[setV N, .slice (some ⟨bL, 0, none⟩) P P] W fun e w' => ∃ a cap, e = .returned (.tuple #[.slice a L cap, .bool true, .int .i64 0]) ∧ Cells w' a (intsL (restL P N P)) ∧ Below W.heap.size W w') := fun W hB => by
              have := cover_rests HNL.out hP1 hP2 W hB
              rwa [← HL2.out] at this
            obtain ⟨c0, c1, c2, c3, cf⟩ := GS.out.2.2.1.set4
            clear HO hc10 GO
            go_wp2_with (first | (go_at_call 53; refine (HCo.out _ GS.out.2.2.2).mono ?_; rintro e w4 ⟨a12, cap12, rfl, hc12, hb⟩; have HC12 := Lib.hid hc12; have HC10b := Lib.hid (HC10.out.below hb); have HBe := Lib.hid (GS.out.2.1.trans (hb.mono GS.out.2.1.size)); clear hb hc12) | (go_at_call 25; refine (ints_eq a12 p10 cap12 cap10 L (restL P N P) _ HL2.out (by omega) HC12.out HC10b.out).mono ?_; rintro e w5 ⟨rfl, hb5⟩))
            go_ret
            exact ⟨by simp, HBe.out.trans (hb5.mono HBe.out.size)⟩
  · have hp1 : p < 1 ∨ 16 < p := by omega
    clear hpr HGw
    rcases hp1 with hp1 | hp1
    all_goals
      go_enter Tryd.func15, Tryd.ntmps15
      simp only [setV]
      go_wp2_with (first | (go_at_call 16; refine (HS.out _ (HG.out.below (below_new1 _ _))).mono ?_; rintro e w2 ⟨rfl, hb⟩))
      go_ret
      exact ⟨by simp, (below_new1 _ _).trans (hb.mono (by simp))⟩
end Go.Proofs.YtjifajigigflkaaDoor
namespace Go.Proofs.YtjifajigigflkaaDoor
set_option linter.unusedSimpArgs false
set_option linter.unusedVariables false
open Go Go.RowKit Go.ChangeShapes Go.WideShapes Go.ChangeAt

set_option maxRecDepth 100000 in
theorem bitsParts_lifted (os : Os) (started : os.Started) (H : Type) (enc : TypeId × Value → H) :
    ReturnsInHanded {} Tryd.checked os 15 .any (fun w args => (Rows.bitsPartsSpec.pre enc Tryd.prog Tryd.f15 [] false w args ∧ laidMetH Tryd.prog laidS w) ∧ sizedMet enc Tryd.prog Tryd.f15 (OpenSpec.ofChange Rows.bitsPartsSpec) false w args)
      (Rows.bitsPartsSpec.post enc Tryd.prog Tryd.f15 false true false false) := by
  refine lifted_of started (by kernel_rfl) Tryd.func15
    (ChangeSpec.witness_shaped (enc := enc) (C := Tryd.checked) (os := os) (X := fun w _ => laidMetH Tryd.prog laidS w) false (World.laidAll Tryd.prog os laidS) #[.agg #[.int .u64 0, .int .u64 0, .int .u64 0, .int .u64 0], .int .i64 0] 8 (World.laidAll_os _ _ _)
      (World.shaped_of_ZipB (by kernel_rfl) (by kernel_rfl)) (by kernel_rfl) (by kernel_rfl) (by kernel_rfl) (laid_met os _)) ?_
  intro W base args ds gs before hg hval0 hW _
  have hval : ∀ (j : Nat) t v, Tryd.f15.params[j]? = some t → args[j]? = some v → Value.okWide Tryd.prog W .any base t v := hval0
  have hW' := hW
  obtain ⟨p, q, hA0, hV, rfl, _, _⟩ := hW
  have hA : DataW.TrodAll enc Tryd.prog W 0 (fun _ => true) true Tryd.f15.params.toList args.toList ds p := hA0
  rw [Tryd.params15] at hA hval
  obtain ⟨v0, v1, d0, d1, p0, p1, rfl, rfl, rfl, h0, h1⟩ := trodAll_two hA
  obtain ⟨rfl, rfl⟩ := trodVars_none hV
  obtain ⟨x0, b0, rfl, rfl, rfl⟩ := open_set (hval 0 _ v0 rfl rfl) h0
  obtain ⟨x1, rfl, rfl, rfl, w1⟩ := open_int Tryd.underlying3 (hval 1 _ v1 rfl rfl) h1
  have b1 : -9223372036854775808 ≤ x1 ∧ x1 ≤ 9223372036854775807 := by simpa [Lit.wf, IntKind.min, IntKind.max, IntKind.signed, IntKind.bits] using w1
  simp only [List.append_nil] at hW'
  refine (bitsParts_any sane_any x0 x1 W hg b0 b1).mono fun e W' ⟨he, hb⟩ => ?_
  subst he
  exact ⟨_, rfl, _, _, _, [], _, [], hW', trodAll_mk1 (shut_bool Tryd.underlying4 _), trodAll_mk2 (shut_set x0) (shut_int Tryd.underlying3 w1), rfl, hb.frame _, fun h => by cases h⟩
theorem bitsParts_holds : Rows.BitsPartsSaid :=
  OpenClaim.holds_of_wide 15 Tryd.f15 rfl rfl rfl rfl rfl rfl rfl ⟨rfl, rfl, rfl, rfl, rfl⟩ rfl rfl rfl rfl rfl (by kernel_rfl) Tryd.func15 (by kernel_rfl)
    (of_decide_eq_true (by kernel_rfl)) (by unfold Func.isWrapper; first | (rw [if_pos (by decide +kernel)]; kernel_rfl) | (rw [if_neg (by decide +kernel)]; exact ⟨rfl, rfl⟩))
    (fun os started H enc _ => bitsParts_lifted os started H enc)
theorem bitsParts_card : Rows.BitsPartsCardSaid :=
  Claim7.holds_tied_plain_at .later [] [.data, .data, .data, .sentinel, .sentinel] true Rows.bitsPartsCard.stood.harness true bitsParts_holds (fun _ h => by cases h) (by kernel_rfl) (fun _ h => by cases h) bitsParts_row_tie rfl ⟨rfl, rfl⟩ (by kernel_rfl) rfl
    (fun f fn hf hfn => by
      obtain rfl : f = 15 := Option.some.inj ((show Tryd.prog.funcNamed "bonehouse/bonehouselaw01.BitsParts" = some 15 by kernel_rfl).symm.trans hf) |>.symm
      obtain rfl : fn = Tryd.f15 := (Option.some.inj (Tryd.func15.symm.trans hfn)).symm
      exact ⟨by kernel_rfl, fun j t ht => by
        rw [Tryd.params15] at ht
        have hm : t ∈ [25, 3] := by simpa using Array.mem_of_getElem? ht
        have hall : ([25, 3].all fun u => !Tryd.prog.wantsStandIn u) = true := by kernel_rfl
        exact (show Tryd.prog.wantsStandIn t = false by simpa using List.all_eq_true.1 hall t hm)⟩)
    (by kernel_rfl)
#print axioms bitsParts_card
end Go.Proofs.YtjifajigigflkaaDoor
