/- The laws' own sane returns true. -/
import Derived.Test.YtjifajigigflkaaDoorQc
import Derived.Test.YtjifajigigflkaaDoorQb
import Derived.Test.YtjifajigigflkaaDoorQ6
import Derived.Test.YtjifajigigflkaaDoorQ8
import Derived.Test.YtjifajigigflkaaDoorQ5
import Derived.Test.YtjifajigigflkaaDoorQ4
import Derived.Test.YtjifajigigflkaaDoorQ9
import Derived.Deep.Cut
import Derived.RangeFuncWrites
/- The laws' own sane: what it asks, in numbers. -/
namespace Go.Proofs.YtjifajigigflkaaDoor
set_option linter.unusedSimpArgs false
set_option linter.unusedVariables false
open Go Go.RowKit Go.Shelf
/-- The contract of the laws' sane. -/
def SaneOk : Prop := ∀ w, Gl w → Calls Tryd.prog 16 #[] w fun e w' => e = .returned (.bool true) ∧ Below w.heap.size w w'
theorem lof_new (xs : List Int) (R : Nat) (hR : (ofL xs 0).getD 0 = R) (hl : xs.length ≤ 9223372036854775807) (w : World) :
    Calls Tryd.prog 64 #[.slice (some ⟨w.heap.size, 0, none⟩) xs.length xs.length] (w.alloc (.cells (xs.map (Value.int .i64)).toArray 3)) fun e w' => e = .returned (setV R) ∧ Below w.heap.size w w' := by
  have hc : Cells (w.alloc (.cells (xs.map (Value.int .i64)).toArray 3)) (some ⟨w.heap.size, 0, none⟩) (xs.map (Value.int .i64)) := .inr ⟨w.heap.size, 0, rfl, fun i v hi => by
    rw [Nat.zero_add, (Blk.new w _ _).cell]; simpa using hi⟩
  refine (lof_any (some ⟨w.heap.size, 0, none⟩) xs.length xs _ hc hl).mono fun e w' ⟨he, hb⟩ => ⟨by rw [he, hR], (below_new1 w _).trans (hb.mono (by simp))⟩
theorem of_new (xs : List Int) (R : Nat) (hR : ofL xs 0 = some R) (hl : xs.length ≤ 9223372036854775807) (w : World) :
    Calls Tryd.prog 17 #[.slice (some ⟨w.heap.size, 0, none⟩) xs.length xs.length] (w.alloc (.cells (xs.map (Value.int .i64)).toArray 3)) fun e w' => e = .returned (.tuple #[setV R, .int .i64 0]) ∧ Below w.heap.size w w' := by
  have hc : Cells (w.alloc (.cells (xs.map (Value.int .i64)).toArray 3)) (some ⟨w.heap.size, 0, none⟩) (xs.map (Value.int .i64)) := .inr ⟨w.heap.size, 0, rfl, fun i v hi => by
    rw [Nat.zero_add, (Blk.new w _ _).cell]; simpa using hi⟩
  refine (of_any (some ⟨w.heap.size, 0, none⟩) xs.length xs _ hc hl).mono fun e w' ⟨he, hb⟩ => ⟨by rw [he, hR]; rfl, (below_new1 w _).trans (hb.mono (by simp))⟩
/-- The set of the integers in these cells. -/
def ofC (cs : Array Value) : Nat := (ofL (cs.toList.map intOf) 0).getD 0
theorem lof_cells (cs : Array Value) (n : Nat) (w : World) (h : cs = ((cs.toList.map intOf).map (Value.int .i64)).toArray ∧ cs.size = n ∧ n ≤ 100) :
    Calls Tryd.prog 64 #[.slice (some ⟨w.heap.size, 0, none⟩) n n] (w.alloc (.cells cs 3)) fun e w' => e = .returned (setV (ofC cs)) ∧ Below w.heap.size w w' := by
  obtain ⟨h1, h2, h3⟩ := h
  have hl : (cs.toList.map intOf).length = n := by rw [List.length_map, Array.length_toList, h2]
  have := lof_new (cs.toList.map intOf) (ofC cs) rfl (by omega) w
  rwa [hl, ← h1] at this
theorem of0_255 : ofL [255, 0, 0] 0 = some (2 ^ 255 + 1) := by decide +kernel
theorem rank_61 : rankV (2 ^ 61 + 3) = .tuple #[.int .i64 35990, .int .i64 0] := by kernel_rfl
theorem unrank_23 : unr 62 2 3 0 = 9 := by decide +kernel
theorem after_0_255 : afterO (2 ^ 255 + 1) = some (2 ^ 255 + 2) := by decide +kernel
theorem cover_123 : cov [6, 8, 12, 2] 4 14 0 = some [0, 1] := by decide +kernel
theorem hit_123 : hitR [6, 12, 32] = .tuple #[setV 36, .bool true, .int .i64 0] := by kernel_rfl
theorem parse_q : parseO [48, 44, 51, 45, 53, 44, 57, 45, 49, 48] = some 1593 := by decide +kernel
theorem print_q : printL (runsL 1593 257 (-1)) = [48, 44, 51, 45, 53, 44, 57, 45, 49, 48] := by decide +kernel
theorem mem_47 : mem 144 = [4, 7] := by decide +kernel
theorem chI_52 : chI 5 2 = 10 := by decide +kernel
theorem cmp_200 : cmpS (2 ^ 200) (2 ^ 199 + 3) = 1 := by decide +kernel
theorem card_q : card 1593 = 6 := by decide +kernel
theorem setCells_new (ls : List Nat) (w : World) (cs : Array Value) (h : ∀ k (hk : k < ls.length), cs[4 * k]? = some (.int .u64 (word ls[k] 0)) ∧ cs[4 * k + 1]? = some (.int .u64 (word ls[k] 1)) ∧ cs[4 * k + 2]? = some (.int .u64 (word ls[k] 2)) ∧ cs[4 * k + 3]? = some (.int .u64 (word ls[k] 3))) :
    SetCells (w.alloc (.cells cs 25)) (some ⟨w.heap.size, 0, none⟩) ls := by
  refine .inr ⟨w.heap.size, 0, rfl, fun i N hi j hj => ?_⟩
  obtain ⟨hlt, rfl⟩ := List.getElem?_eq_some_iff.1 hi
  rw [Nat.zero_add, Nat.mul_comm i 4, (Blk.new w _ _).cell]
  obtain ⟨h0, h1, h2, h3⟩ := h i hlt
  match j, hj with
  | 0, _ => exact h0
  | 1, _ => exact h1
  | 2, _ => exact h2
  | 3, _ => exact h3
theorem cover_new (a b c d n : Nat) (ha : a = 6) (hb : b = 8) (hc : c = 12) (hd : d = 2) (hn : n = 14) (w : World) :
    Calls Tryd.prog 53 #[setV n, .slice (some ⟨w.heap.size, 0, none⟩) 4 4] (w.alloc (.cells #[.int .u64 ↑(word a 0), .int .u64 ↑(word a 1), .int .u64 ↑(word a 2), .int .u64 ↑(word a 3), .int .u64 ↑(word b 0), .int .u64 ↑(word b 1), .int .u64 ↑(word b 2), .int .u64 ↑(word b 3), .int .u64 ↑(word c 0), .int .u64 ↑(word c 1), .int .u64 ↑(word c 2), .int .u64 ↑(word c 3), .int .u64 ↑(word d 0), .int .u64 ↑(word d 1), .int .u64 ↑(word d 2), .int .u64 ↑(word d 3)] 25))
      fun e w' => ∃ v, e = .returned (.tuple #[v, .bool true, .int .i64 0]) ∧ w'.ownsRow w.heap.size 3 1 v 2 (intsL [0, 1]) ∧ Below w.heap.size w w' := by
  have hs := setCells_new [a, b, c, d] w #[.int .u64 ↑(word a 0), .int .u64 ↑(word a 1), .int .u64 ↑(word a 2), .int .u64 ↑(word a 3), .int .u64 ↑(word b 0), .int .u64 ↑(word b 1), .int .u64 ↑(word b 2), .int .u64 ↑(word b 3), .int .u64 ↑(word c 0), .int .u64 ↑(word c 1), .int .u64 ↑(word c 2), .int .u64 ↑(word c 3), .int .u64 ↑(word d 0), .int .u64 ↑(word d 1), .int .u64 ↑(word d 2), .int .u64 ↑(word d 3)] (fun k hk => by
    match k, hk with
    | 0, _ => exact ⟨rfl, rfl, rfl, rfl⟩
    | 1, _ => exact ⟨rfl, rfl, rfl, rfl⟩
    | 2, _ => exact ⟨rfl, rfl, rfl, rfl⟩
    | 3, _ => exact ⟨rfl, rfl, rfl, rfl⟩)
  refine (cover_any n (some ⟨w.heap.size, 0, none⟩) 4 [a, b, c, d] _ (by omega) (by intro N hN; simp at hN; omega) (by simp) hs (fun ad h => by cases h; simp)).mono fun e w' ⟨hbl, h⟩ => ?_
  have hco : cov [a, b, c, d] 4 n 0 = some [0, 1] := by subst ha hb hc hd hn; exact cover_123
  rcases h with ⟨h, _⟩ | ⟨_, h, _⟩ | ⟨_, q, v, h, he, hr⟩
  · simp at h
  · rw [show [a, b, c, d].length = 4 from rfl, hco] at h; cases h
  · rw [show [a, b, c, d].length = 4 from rfl, hco] at h
    cases h
    exact ⟨v, he, ownsRow_le hr (by simp), (below_new1 w _).trans (hbl.mono (by simp))⟩
theorem hit_new (a b c : Nat) (ha : a = 6) (hb : b = 12) (hc : c = 32) (w : World) (hg : Gl w) :
    Calls Tryd.prog 55 #[.slice (some ⟨w.heap.size, 0, none⟩) 3 3] (w.alloc (.cells #[.int .u64 ↑(word a 0), .int .u64 ↑(word a 1), .int .u64 ↑(word a 2), .int .u64 ↑(word a 3), .int .u64 ↑(word b 0), .int .u64 ↑(word b 1), .int .u64 ↑(word b 2), .int .u64 ↑(word b 3), .int .u64 ↑(word c 0), .int .u64 ↑(word c 1), .int .u64 ↑(word c 2), .int .u64 ↑(word c 3)] 25))
      fun e w' => e = .returned (.tuple #[setV 36, .bool true, .int .i64 0]) ∧ Below w.heap.size w w' := by
  have hs := setCells_new [a, b, c] w #[.int .u64 ↑(word a 0), .int .u64 ↑(word a 1), .int .u64 ↑(word a 2), .int .u64 ↑(word a 3), .int .u64 ↑(word b 0), .int .u64 ↑(word b 1), .int .u64 ↑(word b 2), .int .u64 ↑(word b 3), .int .u64 ↑(word c 0), .int .u64 ↑(word c 1), .int .u64 ↑(word c 2), .int .u64 ↑(word c 3)] (fun k hk => by
    match k, hk with
    | 0, _ => exact ⟨rfl, rfl, rfl, rfl⟩
    | 1, _ => exact ⟨rfl, rfl, rfl, rfl⟩
    | 2, _ => exact ⟨rfl, rfl, rfl, rfl⟩)
  refine (hit_any (some ⟨w.heap.size, 0, none⟩) 3 [a, b, c] _ (hg.below (below_new1 _ _)) (by intro N hN; simp at hN; omega) (by simp) hs (fun ad h => by cases h; simp)).mono fun e w' ⟨he, hbl⟩ => ?_
  exact ⟨by rw [he]; subst ha hb hc; rw [hit_123], (below_new1 w _).trans (hbl.mono (by simp))⟩
set_option maxRecDepth 100000 in
theorem eql_func_nil (fn : Fn) (a b : Array Value) (w : World) : (binOp .eql 36 (.func fn a b) .nilFunc).run Tryd.prog w = .ok (.bool false) w := by
  have h : (Op.equalIn 10000 36 (.func fn a b) .nilFunc).run Tryd.prog w = .ok false w := by
    rw [show (10000 : Nat) = 9999 + 1 from rfl]
    generalize (9999 : Nat) = d
    simp only [Op.equalIn, Sem.run_bind, run_underlying Tryd.underlying36, Result.andThen_ok]
    simp
  simp [go_sem, binOp, Op.equal]
  rw [show Op.maxDepth = 10000 from rfl, h]
  rfl
/-- The law on a range over a function, the round's first state told as a function of the state ahead. -/
theorem rangeFunc_act {P : Program} {F : Fence} {n : Nat} {α : Type} {g : Operand} {ps : Array Tmp} {assign body : Code} {Q : Exit → Act → World → Prop} {a : Act} {w : World} (fa : Act → α → Act)
    (hro : F.round = none) (h1 : 1 ≤ n) {gf : Nat} {lb : Array Value} (hg : a.eval g = .func (.func gf) #[] lb) (hFg : F.fn gf) (eg : ∀ args w, (callFunc gf args).run P w = .ok (.enter gf args) w)
    {encs : α → Array Value} {Kp : World → World → Prop} {S Sp : List α → Prop} {N : Nat} {w0 : World} (hseq : SeqStopsK F (n - 1) P gf lb encs Kp S Sp N w0)
    (hKt : ∀ {A B C : World}, Kp A B → Kp B C → Kp A C) (hKb : ∀ (W : World) (l : Nat) (o o' : Obj), w.heap.size ≤ l → W.heap[l]? = some o → o.isCells = false → o.isWalk = false → Kp W (W.putObj l o')) (hb0 : Below w0.heap.size w0 w) (hps : ∀ x, (encs x).size = ps.size)
    (I : List α → World → Prop) (Ix : Code → List α → World → Prop) (hI : OwnFrom w.heap.size I) (hIx : ∀ c, OwnFrom w.heap.size (Ix c)) (h0 : I [] w)
    (hassign : ∀ (l : Nat) (x : α) (W : World) (K : Act → World → Prop), K (fa a x) W →
      assign.wpIn (F.inRound l) (n - 1 - 1) P (Exit.then K (fun _ _ _ => False)) { tmps := (ps.zip (encs x)).foldl (fun t (p, v) => t.setIfInBounds p v) a.tmps, defers := [] } W)
    (hbody : ∀ (l : Nat) (pre : List α) (x : α) (W : World), I pre W → pre.length < N → body.wpIn (F.inRound l) (n - 1 - 1) P (ownPostG w.heap.size Kp I Ix (pre ++ [x]) W) (fa a x) W)
    (hdone : ∀ (D : Nat) (xs : List α) (W : World), w.heap.size ≤ D → S xs → I xs W → W.heap[D]? = some (.deferred (some [])) → Q .normal { a with defers := { target := .collected D, args := #[] } :: a.defers } W)
    (hstop : ∀ (D : Nat) (c : Code) (pre : List α) (W : World), w.heap.size ≤ D → Sp pre → Ix c pre W → W.heap[D]? = some (.deferred (some [])) → c.wpIn F n P Q { a with defers := { target := .collected D, args := #[] } :: a.defers } W) :
    (Code.rangeFunc g ps assign body).wpIn F n P Q a w :=
  wpIn_rangeFunc_ownG hro h1 hg hFg eg hseq hKt hKb hb0 hps I Ix hI hIx h0 (fa a) hassign hbody hdone hstop
/-- But for block b, what was there is as it was. -/
def LF (w0 : World) (b : Nat) (W : World) : Prop := W.os = w0.os ∧ W.tape = w0.tape ∧ W.output = w0.output ∧ w0.heap.size ≤ W.heap.size ∧ ∀ k, k < w0.heap.size → k ≠ b → W.heap[k]? = w0.heap[k]?
theorem LF.refl (w : World) (b : Nat) : LF w b w := ⟨rfl, rfl, rfl, Nat.le_refl _, fun _ _ _ => rfl⟩
theorem LF.blk {w0 W : World} {b k : Nat} {cs : Array Value} {t : TypeId} (h : LF w0 b W) (hB : Blk w0 k cs t) (hne : k ≠ b) : Blk W k cs t := (h.2.2.2.2 k hB.lt hne).trans hB
theorem LF.below {w w0 W : World} {b : Nat} (h : LF w0 b W) (hb : Below w.heap.size w w0) (hle : w.heap.size ≤ b) : Below w.heap.size w W :=
  ⟨h.1.trans hb.os, h.2.1.trans hb.tape, h.2.2.1.trans hb.output, Nat.le_trans hb.size h.2.2.2.1, fun k hk => (h.2.2.2.2 k (Nat.lt_of_lt_of_le hk hb.size) (by omega)).trans (hb.block k hk)⟩
theorem LF.gl {w0 W : World} {b : Nat} (h : LF w0 b W) (hg : Gl w0) (hb : 6 ≤ b) : Gl W := hg.same (fun k hk => h.2.2.2.2 k (Nat.lt_of_lt_of_le hk hg.size) (by omega)) h.2.2.2.1
theorem LF.cells {w0 W : World} {b : Nat} {a : Option Addr} {vs : List Value} (h : LF w0 b W) (hc : Cells w0 a vs) (ho : ∀ k o, a = some ⟨k, o, none⟩ → k < b) : Cells W a vs := by
  rcases hc with hc | ⟨k, o, ha, hc⟩
  · exact .inl hc
  · refine .inr ⟨k, o, ha, fun i v hi => ?_⟩
    have h1 := hc i v hi
    rw [World.cell?_of_block (h.2.2.2.2 k (block_lt_of_cell h1) (by have := ho k o ha; omega))]; exact h1
theorem Cells.old {w : World} {a : Option Addr} {vs : List Value} (h : Cells w a vs) (hne : vs ≠ []) : ∀ b o, a = some ⟨b, o, none⟩ → b < w.heap.size := fun b o ha => by
  rcases h with h | ⟨k, o', ha', hc⟩
  · exact absurd h hne
  · rw [ha] at ha'
    cases ha'
    cases vs with
    | nil => exact absurd rfl hne
    | cons v vs => exact block_lt_of_cell (hc 0 v rfl)
theorem lf_own {β : Type} (w0 : World) (b : Nat) (f : β → Array Value) (t : TypeId) (hb : b < w0.heap.size) : OwnFrom w0.heap.size (fun s W => Blk W b (f s) t ∧ LF w0 b W) := fun s W W' row ⟨h1, h2⟩ hg hr => by
  have hrow : ∀ k, k < w0.heap.size → some k ≠ row := fun k hk e => by have := (hr k e.symm).1; omega
  refine ⟨(hg.block b (Nat.lt_of_lt_of_le hb h2.2.2.2.1) (hrow b hb)).trans h1, hg.os.trans h2.1, hg.tape.trans h2.2.1, hg.output.trans h2.2.2.1, Nat.le_trans h2.2.2.2.1 hg.size, fun k hk hne => ?_⟩
  exact (hg.block k (Nat.lt_of_lt_of_le hk h2.2.2.2.1) (hrow k hk)).trans (h2.2.2.2.2 k hk hne)
theorem LF.set {w0 W : World} {b : Nat} (h : LF w0 b W) (v : Value) : LF w0 b (W.setCell ⟨b, 0, none⟩ v) :=
  ⟨h.1, h.2.1, h.2.2.1, by simpa [World.setCell] using h.2.2.2.1, fun k hk hne => (Below.heap_setCell W ⟨b, 0, none⟩ v k hne).trans (h.2.2.2.2 k hk hne)⟩
def accS (l : List Nat) : Int := l.foldl (fun (t : Int) (x : Nat) => wrap64 (wrap64 (10 * t) + (x : Int))) 0
theorem accS_snoc (l : List Nat) (x : Nat) : accS (l ++ [x]) = wrap64 (wrap64 (10 * accS l) + (x : Int)) := by unfold accS; rw [List.foldl_append]; rfl
theorem accS_47 : accS [4, 7] = 47 := by decide +kernel
theorem gl_old {W w1 : World} (hg : Gl W) (hC : (clOld W.drew).C w1) : Gl w1 := by
  have h : Below W.drew.heap.size W.drew w1 := hC
  exact hg.same (fun k hk => h.block k (Nat.lt_of_lt_of_le hk hg.size)) h.size
theorem lof_w (xs : List Int) (R : Nat) (hR : (ofL xs 0).getD 0 = R) (hl : xs.length ≤ 9223372036854775807) (x : Value) (w : World) (hx : ints_w xs x w) :
    Calls Tryd.prog 64 #[x] w fun e w' => e = .returned (setV R) ∧ Below w.heap.size w w' := by
  obtain ⟨b, rfl, hB⟩ := hx
  have hc : Cells w (some ⟨b, 0, none⟩) (xs.map (Value.int .i64)) := .inr ⟨b, 0, rfl, fun i v hi => by
    rw [Nat.zero_add, hB.cell]; simpa using hi⟩
  exact (lof_any (some ⟨b, 0, none⟩) xs.length xs _ hc hl).mono fun e w' ⟨he, hb⟩ => ⟨by rw [he, hR], hb⟩
theorem ints_at (a : Option Addr) (cap : Nat) (x : Value) (w : World) (hc : Cells w a (intsL [0, 1])) (hx : ints_w [0, 1] x w) :
    Calls Tryd.prog 25 #[.slice a 2 cap, x] w fun e w' => e = .returned (.bool true) ∧ Below w.heap.size w w' := by
  obtain ⟨b, rfl, hB⟩ := hx
  have hc2 : Cells w (some ⟨b, 0, none⟩) (([0, 1] : List Int).map (Value.int .i64)) := .inr ⟨b, 0, rfl, fun i v hi => by
    rw [Nat.zero_add, hB.cell]; simpa using hi⟩
  exact (ints_any a (some ⟨b, 0, none⟩) cap 2 [0, 1] [0, 1] w hc hc2 (by decide) (by decide)).mono fun e w' ⟨he, hb⟩ => ⟨by rw [he]; rfl, hb⟩
end Go.Proofs.YtjifajigigflkaaDoor
/- The laws' own sane. -/
namespace Go.Proofs.YtjifajigigflkaaDoor
set_option linter.unusedSimpArgs false
set_option linter.unusedVariables false
open Go Go.RowKit Go.Shelf
attribute [local go_sem] eql_func_nil Oper.semAt_some

set_option maxRecDepth 100000 in
set_option maxHeartbeats 1000000 in
theorem sane_any : SaneOk := fun w hg => by
  obtain ⟨A1, hA1⟩ : ∃ A, A = 2 ^ 255 + 1 := ⟨_, rfl⟩
  obtain ⟨A2, hA2⟩ : ∃ A, A = 2 ^ 61 + 3 := ⟨_, rfl⟩
  obtain ⟨A5, hA5⟩ : ∃ A, A = 9 := ⟨_, rfl⟩
  obtain ⟨A7, hA7⟩ : ∃ A, A = 2 ^ 255 + 2 := ⟨_, rfl⟩
  obtain ⟨A12, hA12⟩ : ∃ A, A = 36 := ⟨_, rfl⟩
  obtain ⟨A17, hA17⟩ : ∃ A, A = 1593 := ⟨_, rfl⟩
  obtain ⟨S14, hS14⟩ : ∃ A, A = 14 := ⟨_, rfl⟩
  obtain ⟨S6, hS6⟩ : ∃ A, A = 6 := ⟨_, rfl⟩
  obtain ⟨S8, hS8⟩ : ∃ A, A = 8 := ⟨_, rfl⟩
  obtain ⟨S12, hS12⟩ : ∃ A, A = 12 := ⟨_, rfl⟩
  obtain ⟨S2, hS2⟩ : ∃ A, A = 2 := ⟨_, rfl⟩
  obtain ⟨S32, hS32⟩ : ∃ A, A = 32 := ⟨_, rfl⟩
  obtain ⟨S144, hS144⟩ : ∃ A, A = 144 := ⟨_, rfl⟩
  obtain ⟨A200, hA200⟩ : ∃ A, A = 2 ^ 200 := ⟨_, rfl⟩
  obtain ⟨A199, hA199⟩ : ∃ A, A = 2 ^ 199 + 3 := ⟨_, rfl⟩
  have H17 : Hid (∀ w, Calls Tryd.prog 17 #[.slice (some ⟨w.heap.size, 0, none⟩) 3 3] (w.alloc (.cells #[.int .i64 255, .int .i64 0, .int .i64 0] 3)) fun e w' => e = .returned (.tuple #[setV A1, .int .i64 0]) ∧ Below w.heap.size w w') := fun w => by
    rw [hA1]; exact of_new [255, 0, 0] _ of0_255 (by decide) w
  have L61 : ofC #[.int .i64 0, .int .i64 1, .int .i64 61] = A2 := by rw [hA2]; decide +kernel
  have L255 : ofC #[.int .i64 0, .int .i64 255] = A1 := by rw [hA1]; decide +kernel
  have L123 : ofC #[.int .i64 1, .int .i64 2, .int .i64 3] = S14 := by rw [hS14]; decide +kernel
  have L12 : ofC #[.int .i64 1, .int .i64 2] = S6 := by rw [hS6]; decide +kernel
  have L3 : ofC #[.int .i64 3] = S8 := by rw [hS8]; decide +kernel
  have L23 : ofC #[.int .i64 2, .int .i64 3] = S12 := by rw [hS12]; decide +kernel
  have L1 : ofC #[.int .i64 1] = S2 := by rw [hS2]; decide +kernel
  have L5 : ofC #[.int .i64 5] = S32 := by rw [hS32]; decide +kernel
  have L47 : ofC #[.int .i64 4, .int .i64 7] = S144 := by rw [hS144]; decide +kernel
  have HRk : Hid (∀ w, Gl w → Calls Tryd.prog 47 #[setV A2] w fun e w' => e = .returned (.tuple #[.int .i64 35990, .int .i64 0]) ∧ Below w.heap.size w w') := fun w hg => by
    have := rank_any A2 w hg (by rw [hA2]; decide)
    rwa [hA2, rank_61, ← hA2] at this
  have HUn : Hid (∀ w, Calls Tryd.prog 49 #[.int .i64 2, .int .i64 3] w fun e w' => e = .returned (.tuple #[setV A5, .int .i64 0]) ∧ Below w.heap.size w w') := fun w => by
    have := unrank_in 2 3 w (by decide) (by decide +kernel)
    rwa [unrank_23, ← hA5] at this
  have HAf : Hid (∀ w, Gl w → Calls Tryd.prog 51 #[setV A1] w fun e w' => e = .returned (.tuple #[setV A7, .bool true]) ∧ Below w.heap.size w w') := fun w hg => by
    have := after_any A1 w hg (by rw [hA1]; decide)
    rwa [hA1, after_0_255, ← hA1, ← hA7] at this
  have HCh : Hid (∀ w, Calls Tryd.prog 45 #[.int .i64 5, .int .i64 2] w fun e w' => e = .returned (.tuple #[.int .i64 10, .int .i64 0]) ∧ Below w.heap.size w w') := fun w => (Choose_in 5 2 w (by decide)).mono fun e w' ⟨he, hw⟩ => ⟨by rw [he, chI_52]; rfl, by rw [← hw]; exact Below.refl _ _⟩
  have HPa : Hid (∀ w, Gl w → Calls Tryd.prog 58 #[.string ⟨#[48, 44, 51, 45, 53, 44, 57, 45, 49, 48]⟩] w fun e w' => e = .returned (.tuple #[setV A17, .int .i64 0]) ∧ Below w.heap.size w w') := fun w hg => by
    have := parse_any ⟨#[48, 44, 51, 45, 53, 44, 57, 45, 49, 48]⟩ w hg (by decide)
    rwa [show (⟨#[48, 44, 51, 45, 53, 44, 57, 45, 49, 48]⟩ : ByteArray).data.toList = [48, 44, 51, 45, 53, 44, 57, 45, 49, 48] from rfl, parse_q, ← hA17] at this
  have HCo : Hid (∀ w, _) := fun w => cover_new S6 S8 S12 S2 S14 hS6 hS8 hS12 hS2 hS14 w
  have HHi : Hid (∀ w, Gl w → _) := fun w hg => by
    have := hit_new S6 S12 S32 hS6 hS12 hS32 w hg
    rwa [← hA12] at this
  have HCmp : Hid (∀ w, Calls Tryd.prog 43 #[setV A200, setV A199] w fun e w' => e = .returned (.int .i64 1) ∧ Below w.heap.size w w') := fun w => by
    have := compare_any A200 A199 w (by rw [hA200]; decide) (by rw [hA199]; decide)
    rwa [hA200, hA199, cmp_200, ← hA200, ← hA199] at this
  have HSz : Hid (∀ w, Calls Tryd.prog 37 #[setV A17] w fun e w' => e = .returned (.int .i64 6) ∧ Below w.heap.size w w') := fun w => by
    have := size_any A17 w
    rwa [hA17, card_q, ← hA17] at this
  have HPr : Hid (∀ w, Gl w → Calls Tryd.prog 57 #[setV A17] w fun e w' => e = .returned (.string ⟨#[48, 44, 51, 45, 53, 44, 57, 45, 49, 48]⟩) ∧ Below w.heap.size w w') := fun w hg => by
    have := print_any A17 w hg (by rw [hA17]; decide)
    rwa [hA17, print_q, ← hA17] at this
  have M1 := lof_w [0, 255] A1 (by rw [hA1]; decide +kernel) (by decide)
  have M5 := lof_w [0, 3] A5 (by rw [hA5]; decide +kernel) (by decide)
  have M7 := lof_w [1, 255] A7 (by rw [hA7]; decide +kernel) (by decide)
  have M12 := lof_w [2, 5] A12 (by rw [hA12]; decide +kernel) (by decide)
  have M17 := lof_w [0, 3, 4, 5, 9, 10] A17 (by rw [hA17]; decide +kernel) (by decide)
  have M200 := lof_w [200] A200 (by rw [hA200]; decide +kernel) (by decide)
  have M199 := lof_w [0, 1, 199] A199 (by rw [hA199]; decide +kernel) (by decide)
  replace M1 := Lib.hid M1; replace M5 := Lib.hid M5; replace M7 := Lib.hid M7; replace M12 := Lib.hid M12; replace M17 := Lib.hid M17; replace M200 := Lib.hid M200; replace M199 := Lib.hid M199
  have HE : Hid (A1 = 2 ^ 255 + 1 ∧ A5 = 9 ∧ A7 = 2 ^ 255 + 2 ∧ A12 = 36 ∧ A17 = 1593 ∧ S144 = 144) := ⟨hA1, hA5, hA7, hA12, hA17, hS144⟩
  clear hA200 hA199 hA1 hA2 hA5 hA7 hA12 hA17 hS14 hS6 hS8 hS12 hS2 hS32 hS144
  refine (callsIn_wide (n := 8)).1 (callsIn_of_wp_marks Tryd.func16 rfl trivial ?_ rfl)
  refine wpIn_wide.2 ?_
  simp only [Tryd.ntmps16, List.size_toArray, List.length_cons, List.length_nil, Nat.reduceAdd, Nat.reduceSub, Array.replicate_succ, Array.replicate_zero, List.push_toArray, List.append_toArray, List.nil_append, List.cons_append]
  have HG := Lib.hid hg
  have HB : Hid (Below w.heap.size w w) := Below.refl _ _
  have HBE : Hid (Below w.heap.size w w) := Below.refl _ _
  clear hg
  go_upto_region 2 with (first | (go_at_call 17; (first | refine (H17.out _).mono ?_); rintro e w2 ⟨rfl, hb⟩; simp only [setV]; replace HBE := Lib.hid (HBE.out.trans (hb.mono HBE.out.size)); clear hb))
  refine named (fun V => Gl V ∧ Below w.heap.size w V ∧ Blk V w2.heap.size (setA A1) 25) ⟨HG.out.below (HBE.out.alloc HBE.out.size _), HB.out.trans ((HBE.out.alloc HBE.out.size _).mono HB.out.size), Blk.newW _ _ _⟩ ?_
  clear HBE HG HB
  rintro W1 ⟨HG, HB, Kb1⟩
  replace HG := Lib.hid HG
  replace HB := Lib.hid HB
  replace Kb1 := Lib.hid Kb1
  generalize w2.heap.size = b1 at Kb1 ⊢
  have HBE : Hid (Below W1.heap.size W1 W1) := Below.refl _ _
  go_upto_region 3 with (first | (go_at_call 64; refine (lof_cells _ _ _ (by exact ⟨rfl, rfl, by decide⟩)).mono ?_; rintro e w2 ⟨rfl, hb⟩; simp only [L61, setV]; replace HBE := Lib.hid (HBE.out.trans (hb.mono HBE.out.size)); clear hb) | (go_at_call 47; (first | refine (HRk.out _ (HG.out.below HBE.out)).mono ?_); rintro e w2 ⟨rfl, hb⟩; simp only [setV]; replace HBE := Lib.hid (HBE.out.trans (hb.mono HBE.out.size)); clear hb))
  refine named (fun V => Gl V ∧ Below w.heap.size w V ∧ Blk V b1 (setA A1) 25) ⟨HG.out.below (HBE.out), HB.out.trans ((HBE.out).mono HB.out.size), Kb1.out.below (HBE.out) Kb1.out.lt⟩ ?_
  clear HBE HG HB Kb1
  rintro W2 ⟨HG, HB, Kb1⟩
  replace HG := Lib.hid HG
  replace HB := Lib.hid HB
  replace Kb1 := Lib.hid Kb1
  have HBE : Hid (Below W2.heap.size W2 W2) := Below.refl _ _
  go_upto_region 4 with (first | (go_at_call 49; (first | refine (HUn.out _).mono ?_); rintro e w2 ⟨rfl, hb⟩; simp only [setV]; replace HBE := Lib.hid (HBE.out.trans (hb.mono HBE.out.size)); clear hb))
  refine named (fun V => Gl V ∧ Below w.heap.size w V ∧ Blk V b1 (setA A1) 25 ∧ Blk V w2.heap.size (setA A5) 25) ⟨HG.out.below (HBE.out.alloc HBE.out.size _), HB.out.trans ((HBE.out.alloc HBE.out.size _).mono HB.out.size), Kb1.out.below (HBE.out.alloc HBE.out.size _) Kb1.out.lt, Blk.newW _ _ _⟩ ?_
  clear HBE HG HB Kb1
  rintro W3 ⟨HG, HB, Kb1, Kb5⟩
  replace HG := Lib.hid HG
  replace HB := Lib.hid HB
  replace Kb1 := Lib.hid Kb1
  replace Kb5 := Lib.hid Kb5
  generalize w2.heap.size = b5 at Kb5 ⊢
  have HBE : Hid (Below W3.heap.size W3 W3) := Below.refl _ _
  go_upto_region 5 with (first | (go_at_call 64; refine (lof_cells _ _ _ (by exact ⟨rfl, rfl, by decide⟩)).mono ?_; rintro e w2 ⟨rfl, hb⟩; simp only [L255, setV]; replace HBE := Lib.hid (HBE.out.trans (hb.mono HBE.out.size)); clear hb) | (go_at_call 51; (first | refine (HAf.out _ (HG.out.below HBE.out)).mono ?_); rintro e w2 ⟨rfl, hb⟩; simp only [setV]; replace HBE := Lib.hid (HBE.out.trans (hb.mono HBE.out.size)); clear hb))
  refine named (fun V => Gl V ∧ Below w.heap.size w V ∧ Blk V b1 (setA A1) 25 ∧ Blk V b5 (setA A5) 25 ∧ Blk V w2.heap.size (setA A7) 25) ⟨HG.out.below (HBE.out.alloc HBE.out.size _), HB.out.trans ((HBE.out.alloc HBE.out.size _).mono HB.out.size), Kb1.out.below (HBE.out.alloc HBE.out.size _) Kb1.out.lt, Kb5.out.below (HBE.out.alloc HBE.out.size _) Kb5.out.lt, Blk.newW _ _ _⟩ ?_
  clear HBE HG HB Kb1 Kb5
  rintro W4 ⟨HG, HB, Kb1, Kb5, Kb7⟩
  replace HG := Lib.hid HG
  replace HB := Lib.hid HB
  replace Kb1 := Lib.hid Kb1
  replace Kb5 := Lib.hid Kb5
  replace Kb7 := Lib.hid Kb7
  generalize w2.heap.size = b7 at Kb7 ⊢
  have HBE : Hid (Below W4.heap.size W4 W4) := Below.refl _ _
  go_upto_region 6 with (first | (go_at_call 64; refine (lof_cells _ _ _ (by exact ⟨rfl, rfl, by decide⟩)).mono ?_; rintro e w2 ⟨rfl, hb⟩; simp only [L123, L12, L3, L23, L1, setV]; replace HBE := Lib.hid (HBE.out.trans (hb.mono HBE.out.size)); clear hb) | (go_at_call 53; refine (HCo.out _).mono ?_; rintro e w2 ⟨v, rfl, hr, hb⟩; obtain ⟨_, a9, cap9, rfl, hc9, _⟩ := ownsRow_cells hr; have HC9 := Lib.hid hc9; clear hr hc9; replace HBE := Lib.hid (HBE.out.trans (hb.mono HBE.out.size)); clear hb))
  refine named (fun V => Gl V ∧ Below w.heap.size w V ∧ Blk V b1 (setA A1) 25 ∧ Blk V b5 (setA A5) 25 ∧ Blk V b7 (setA A7) 25 ∧ Cells V a9 (intsL [0, 1])) ⟨HG.out.below (HBE.out), HB.out.trans ((HBE.out).mono HB.out.size), Kb1.out.below (HBE.out) Kb1.out.lt, Kb5.out.below (HBE.out) Kb5.out.lt, Kb7.out.below (HBE.out) Kb7.out.lt, HC9.out⟩ ?_
  clear HBE HG HB Kb1 Kb5 Kb7 HC9
  rintro W5 ⟨HG, HB, Kb1, Kb5, Kb7, HC9⟩
  replace HG := Lib.hid HG
  replace HB := Lib.hid HB
  replace Kb1 := Lib.hid Kb1
  replace Kb5 := Lib.hid Kb5
  replace Kb7 := Lib.hid Kb7
  replace HC9 := Lib.hid HC9
  have HBE : Hid (Below W5.heap.size W5 W5) := Below.refl _ _
  go_upto_region 7 with (first | (go_at_call 64; refine (lof_cells _ _ _ (by exact ⟨rfl, rfl, by decide⟩)).mono ?_; rintro e w2 ⟨rfl, hb⟩; simp only [L12, L23, L5, setV]; replace HBE := Lib.hid (HBE.out.trans (hb.mono HBE.out.size)); clear hb) | (go_at_call 55; (first | refine (HHi.out _ (HG.out.below HBE.out)).mono ?_); rintro e w2 ⟨rfl, hb⟩; simp only [setV]; replace HBE := Lib.hid (HBE.out.trans (hb.mono HBE.out.size)); clear hb))
  refine named (fun V => Gl V ∧ Below w.heap.size w V ∧ Blk V b1 (setA A1) 25 ∧ Blk V b5 (setA A5) 25 ∧ Blk V b7 (setA A7) 25 ∧ Cells V a9 (intsL [0, 1]) ∧ Blk V w2.heap.size (setA A12) 25) ⟨HG.out.below (HBE.out.alloc HBE.out.size _), HB.out.trans ((HBE.out.alloc HBE.out.size _).mono HB.out.size), Kb1.out.below (HBE.out.alloc HBE.out.size _) Kb1.out.lt, Kb5.out.below (HBE.out.alloc HBE.out.size _) Kb5.out.lt, Kb7.out.below (HBE.out.alloc HBE.out.size _) Kb7.out.lt, HC9.out.below (HBE.out.alloc HBE.out.size _), Blk.newW _ _ _⟩ ?_
  clear HBE HG HB Kb1 Kb5 Kb7 HC9
  rintro W6 ⟨HG, HB, Kb1, Kb5, Kb7, HC9, Kb12⟩
  replace HG := Lib.hid HG
  replace HB := Lib.hid HB
  replace Kb1 := Lib.hid Kb1
  replace Kb5 := Lib.hid Kb5
  replace Kb7 := Lib.hid Kb7
  replace HC9 := Lib.hid HC9
  replace Kb12 := Lib.hid Kb12
  generalize w2.heap.size = b12 at Kb12 ⊢
  have HBE : Hid (Below W6.heap.size W6 W6) := Below.refl _ _
  go_upto_region 8 with (first | (go_at_call 45; (first | refine (HCh.out _).mono ?_); rintro e w2 ⟨rfl, hb⟩; simp only [setV]; replace HBE := Lib.hid (HBE.out.trans (hb.mono HBE.out.size)); clear hb))
  refine named (fun V => Gl V ∧ Below w.heap.size w V ∧ Blk V b1 (setA A1) 25 ∧ Blk V b5 (setA A5) 25 ∧ Blk V b7 (setA A7) 25 ∧ Blk V b12 (setA A12) 25 ∧ Cells V a9 (intsL [0, 1])) ⟨HG.out.below (HBE.out), HB.out.trans ((HBE.out).mono HB.out.size), Kb1.out.below (HBE.out) Kb1.out.lt, Kb5.out.below (HBE.out) Kb5.out.lt, Kb7.out.below (HBE.out) Kb7.out.lt, Kb12.out.below (HBE.out) Kb12.out.lt, HC9.out.below (HBE.out)⟩ ?_
  clear HBE HG HB Kb1 Kb5 Kb7 Kb12 HC9
  rintro W7 ⟨HG, HB, Kb1, Kb5, Kb7, Kb12, HC9⟩
  replace HG := Lib.hid HG
  replace HB := Lib.hid HB
  replace Kb1 := Lib.hid Kb1
  replace Kb5 := Lib.hid Kb5
  replace Kb7 := Lib.hid Kb7
  replace Kb12 := Lib.hid Kb12
  replace HC9 := Lib.hid HC9
  have HBE : Hid (Below W7.heap.size W7 W7) := Below.refl _ _
  go_upto_region 9 with (first | (go_at_call 58; (first | refine (HPa.out _ (HG.out.below HBE.out)).mono ?_); rintro e w2 ⟨rfl, hb⟩; simp only [setV]; replace HBE := Lib.hid (HBE.out.trans (hb.mono HBE.out.size)); clear hb))
  refine named (fun V => Gl V ∧ Below w.heap.size w V ∧ Blk V b1 (setA A1) 25 ∧ Blk V b5 (setA A5) 25 ∧ Blk V b7 (setA A7) 25 ∧ Blk V b12 (setA A12) 25 ∧ Cells V a9 (intsL [0, 1]) ∧ Blk V w2.heap.size (setA A17) 25) ⟨HG.out.below (HBE.out.alloc HBE.out.size _), HB.out.trans ((HBE.out.alloc HBE.out.size _).mono HB.out.size), Kb1.out.below (HBE.out.alloc HBE.out.size _) Kb1.out.lt, Kb5.out.below (HBE.out.alloc HBE.out.size _) Kb5.out.lt, Kb7.out.below (HBE.out.alloc HBE.out.size _) Kb7.out.lt, Kb12.out.below (HBE.out.alloc HBE.out.size _) Kb12.out.lt, HC9.out.below (HBE.out.alloc HBE.out.size _), Blk.newW _ _ _⟩ ?_
  clear HBE HG HB Kb1 Kb5 Kb7 Kb12 HC9
  rintro W8 ⟨HG, HB, Kb1, Kb5, Kb7, Kb12, HC9, Kb17⟩
  replace HG := Lib.hid HG
  replace HB := Lib.hid HB
  replace Kb1 := Lib.hid Kb1
  replace Kb5 := Lib.hid Kb5
  replace Kb7 := Lib.hid Kb7
  replace Kb12 := Lib.hid Kb12
  replace HC9 := Lib.hid HC9
  replace Kb17 := Lib.hid Kb17
  generalize w2.heap.size = b17 at Kb17 ⊢
  have HBE : Hid (Below W8.heap.size W8 W8) := Below.refl _ _
  have l0 : Hid (w.heap.size ≤ W8.heap.size ∧ 6 ≤ W8.heap.size) := ⟨HB.out.size, HG.out.size⟩
  have l1 : Hid (b1 < W8.heap.size ∧ b5 < W8.heap.size ∧ b7 < W8.heap.size ∧ b12 < W8.heap.size ∧ b17 < W8.heap.size) := ⟨Kb1.out.lt, Kb5.out.lt, Kb7.out.lt, Kb12.out.lt, Kb17.out.lt⟩
  have l9 : Hid (∀ b o, a9 = some ⟨b, o, none⟩ → b < W8.heap.size) := HC9.out.old (by decide)
  go_upto_region 10 with (first | fail)
  refine named (fun V => Gl V ∧ Below w.heap.size w V ∧ Blk V b1 (setA A1) 25 ∧ Blk V b5 (setA A5) 25 ∧ Blk V b7 (setA A7) 25 ∧ Blk V b12 (setA A12) 25 ∧ Blk V b17 (setA A17) 25 ∧ Cells V a9 (intsL [0, 1]) ∧ Blk V W8.heap.size #[.int .i64 0] 3) ⟨HG.out.below (HBE.out.alloc HBE.out.size _), HB.out.trans ((HBE.out.alloc HBE.out.size _).mono HB.out.size), Kb1.out.below (HBE.out.alloc HBE.out.size _) Kb1.out.lt, Kb5.out.below (HBE.out.alloc HBE.out.size _) Kb5.out.lt, Kb7.out.below (HBE.out.alloc HBE.out.size _) Kb7.out.lt, Kb12.out.below (HBE.out.alloc HBE.out.size _) Kb12.out.lt, Kb17.out.below (HBE.out.alloc HBE.out.size _) Kb17.out.lt, HC9.out.below (HBE.out.alloc HBE.out.size _), Blk.new _ _ _⟩ ?_
  clear HBE HG HB Kb1 Kb5 Kb7 Kb12 Kb17 HC9
  rintro W9 ⟨HG, HB, Kb1, Kb5, Kb7, Kb12, Kb17, HC9, Kb19⟩
  replace HG := Lib.hid HG
  replace HB := Lib.hid HB
  replace Kb1 := Lib.hid Kb1
  replace Kb5 := Lib.hid Kb5
  replace Kb7 := Lib.hid Kb7
  replace Kb12 := Lib.hid Kb12
  replace Kb17 := Lib.hid Kb17
  replace HC9 := Lib.hid HC9
  replace Kb19 := Lib.hid Kb19
  generalize W8.heap.size = b19 at Kb19 l0 l1 l9 ⊢
  have HBE : Hid (Below W9.heap.size W9 W9) := Below.refl _ _
  go_upto_region 11 with (first | (go_at_call 64; refine (lof_cells _ _ _ (by exact ⟨rfl, rfl, by decide⟩)).mono ?_; rintro e w2 ⟨rfl, hb⟩; simp only [L47, setV]; replace HBE := Lib.hid (HBE.out.trans (hb.mono HBE.out.size)); clear hb) | (go_at_call 24; have lA : Hid (b19 < w2.heap.size) := Nat.lt_of_lt_of_le Kb19.out.lt HBE.out.size; refine (All_any S144 _).mono ?_; rintro e w3 ⟨rfl, hBA, hb⟩; replace HBE := Lib.hid (HBE.out.trans (hb.mono HBE.out.size)); clear hb; generalize w2.heap.size = bA at hBA lA ⊢; have KbA := Lib.hid hBA; clear hBA))
  refine named (fun V => Gl V ∧ Below w.heap.size w V ∧ Blk V b1 (setA A1) 25 ∧ Blk V b5 (setA A5) 25 ∧ Blk V b7 (setA A7) 25 ∧ Blk V b12 (setA A12) 25 ∧ Blk V b17 (setA A17) 25 ∧ Blk V b19 #[.int .i64 0] 3 ∧ Cells V a9 (intsL [0, 1]) ∧ Blk V bA (setA S144) 25) ⟨HG.out.below (HBE.out), HB.out.trans ((HBE.out).mono HB.out.size), Kb1.out.below (HBE.out) Kb1.out.lt, Kb5.out.below (HBE.out) Kb5.out.lt, Kb7.out.below (HBE.out) Kb7.out.lt, Kb12.out.below (HBE.out) Kb12.out.lt, Kb17.out.below (HBE.out) Kb17.out.lt, Kb19.out.below (HBE.out) Kb19.out.lt, HC9.out.below (HBE.out), KbA.out⟩ ?_
  clear HBE HG HB Kb1 Kb5 Kb7 Kb12 Kb17 Kb19 HC9 KbA
  rintro W10 ⟨HG, HB, Kb1, Kb5, Kb7, Kb12, Kb17, Kb19, HC9, KbA⟩
  replace HG := Lib.hid HG
  replace HB := Lib.hid HB
  replace Kb1 := Lib.hid Kb1
  replace Kb5 := Lib.hid Kb5
  replace Kb7 := Lib.hid Kb7
  replace Kb12 := Lib.hid Kb12
  replace Kb17 := Lib.hid Kb17
  replace Kb19 := Lib.hid Kb19
  replace HC9 := Lib.hid HC9
  replace KbA := Lib.hid KbA
  have HBE : Hid (Below W10.heap.size W10 W10) := Below.refl _ _
  go_wp2_with fail
  refine (wpIn_wide (n := 8)).1 ?_
  refine rangeFunc_act (F := Fence.wide) (n := 8) (fun a (x : MemOf fun _ => True) => { tmps := (a.tmps.setIfInBounds 85 (.int .i64 (x.1 : Int))).setIfInBounds 21 (.int .i64 (x.1 : Int)), defers := [] }) rfl (by decide) (gf := 69) (lb := #[.pointer (some ⟨bA, 0, none⟩)]) rfl trivial (enters_of Tryd.func69 (by kernel_rfl) rfl)
    (All1_stops (fun _ => True) S144 bA (8 - 1) (fun _ _ => trivial) _ HG.out KbA.out (by decide)) Kb.trans (Kb.turn HG.out.size KbA.out.lt) (Below.refl _ _) (fun _ => rfl)
    (fun (pre : List (MemOf fun _ => True)) W => Blk W b19 #[.int .i64 (accS (vals pre))] 3 ∧ LF W10 b19 W) (fun _ _ _ => False)
    (lf_own W10 b19 _ _ Kb19.out.lt) (fun _ _ _ _ _ hs _ _ => hs) ⟨Kb19.out, LF.refl _ _⟩ ?assign ?body ?done ?stop
  case assign =>
    intro l x W K hK
    simp only [List.setIfInBounds_toArray, List.set_cons_succ, List.set_cons_zero] at hK
    gi_wp2
    exact hK
  case body =>
    rintro l pre x W ⟨hB19, hLF⟩ hlt
    simp only [List.setIfInBounds_toArray, List.set_cons_succ, List.set_cons_zero]
    obtain ⟨hc, hf⟩ := hB19.cell1
    have HB19 := Lib.hid hB19
    have HLF := Lib.hid hLF
    obtain ⟨t, ht⟩ : ∃ t, t = accS (vals pre) := ⟨_, rfl⟩
    rw [← ht] at hc
    have HT := Lib.hid ht
    clear hB19 hLF ht
    gi_wp2
    refine ⟨keeps_set HB19.out _, ⟨by simp [World.setCell], fun k hk => Below.heap_setCell _ _ _ _ (by have := l0.out; have := lA.out; dsimp only; omega)⟩, ?_, HLF.out.set _⟩
    have e : accS (vals (pre ++ [x])) = wrap64 (wrap64 (10 * t) + (x.1 : Int)) := by rw [vals_snoc, accS_snoc, ← HT.out]
    show Blk _ b19 #[.int .i64 (accS (vals (pre ++ [x])))] 3
    rw [e]
    exact HB19.out.put1 _
  case done =>
    rintro D ys W hD hys ⟨hB19, hLF⟩ hK
    obtain ⟨_, _, _, _, _, e144⟩ := HE.out
    have q0 := l0.out
    have q1 := l1.out
    have qA := lA.out
    have F1 := Lib.hid (hLF.blk Kb1.out (by omega))
    have F5 := Lib.hid (hLF.blk Kb5.out (by omega))
    have F7 := Lib.hid (hLF.blk Kb7.out (by omega))
    have F12 := Lib.hid (hLF.blk Kb12.out (by omega))
    have F17 := Lib.hid (hLF.blk Kb17.out (by omega))
    have F19 : Hid (Blk W b19 #[.int .i64 47] 3) := by
      have e : accS (vals ys) = 47 := by rw [show vals ys = mem S144 from hys, e144, mem_47, accS_47]
      rw [← e]; exact hB19
    have FC := Lib.hid (hLF.cells HC9.out l9.out)
    have FG := Lib.hid (hLF.gl HG.out q0.2)
    have FB := Lib.hid (hLF.below HB.out q0.1)
    have FK := Lib.hid hK
    have FD : Hid (w.heap.size ≤ D) := Nat.le_trans HB.out.size hD
    clear q0 q1 qA hB19 hLF hK Kb1 Kb5 Kb7 Kb12 Kb17 Kb19 KbA HC9 l9 l0 l1 lA HG HB
    go_wp2_with fail
    refine wp_region_old 64 191 (by kernel_rfl) (by kernel_rfl) (by rfl) ?_
    simp only [List.take_succ_cons, List.take_zero, List.drop_succ_cons, List.drop_zero, List.drop_nil]
    refine chain_load (setV A1) _ _ _ (fun _ _ => Below.refl _ _) rfl rfl (by kernel_rfl) (by kernel_rfl) rfl (fun w1 hC => load_set (F1.out.drew.below hC F1.out.lt)) ?_
    refine chain_new (ints_w [0, 255]) (ints_lasts _) rfl (by intro cs b h; cases h) (by kernel_rfl) (by kernel_rfl) (fun w hC => ints_new (by simp [execOp, go_sem, Instr.buildSlice, evE]) hC) ?_
    refine chain_call_use (setV A1) 129 _ 64 (fun x => [x]) _ _ (enters_of Tryd.func64 (by kernel_rfl) rfl) rfl rfl rfl (by kernel_rfl) rfl rfl (fun _ => rfl) rfl (fun _ => rfl) (fun x w1 _ hx => M1.out x w1 hx) ?_
    refine chain_bin (.bool true) _ _ _ _ _ (setV A1) (setV A1) (fun _ _ => Below.refl _ _) rfl rfl (by kernel_rfl) (by kernel_rfl) rfl rfl (fun w => eql_set_same _ _ _ w) ?_
    refine chain_move (.bool true) _ (fun _ _ => Below.refl _ _) rfl rfl (by kernel_rfl) (by kernel_rfl) rfl ?_
    refine chain_move (.int .i64 35990) _ (fun _ _ => Below.refl _ _) rfl rfl (by kernel_rfl) (by kernel_rfl) rfl ?_
    refine chain_bin (.bool true) _ _ _ _ _ (.int .i64 35990) (.int .i64 35990) (fun _ _ => Below.refl _ _) rfl rfl (by kernel_rfl) (by kernel_rfl) rfl rfl (fun w => eql_int_same _ _ _ _ w) ?_
    refine chain_pick (.bool true) _ _ _ true (fun _ _ => Below.refl _ _) rfl rfl (by kernel_rfl) (by kernel_rfl) rfl rfl ?_
    refine chain_move (.bool true) _ (fun _ _ => Below.refl _ _) rfl rfl (by kernel_rfl) (by kernel_rfl) rfl ?_
    refine chain_load (setV A5) _ _ _ (fun _ _ => Below.refl _ _) rfl rfl (by kernel_rfl) (by kernel_rfl) rfl (fun w1 hC => load_set (F5.out.drew.below hC F5.out.lt)) ?_
    refine chain_new (ints_w [0, 3]) (ints_lasts _) rfl (by intro cs b h; cases h) (by kernel_rfl) (by kernel_rfl) (fun w hC => ints_new (by simp [execOp, go_sem, Instr.buildSlice, evE]) hC) ?_
    refine chain_call_use (setV A5) 138 _ 64 (fun x => [x]) _ _ (enters_of Tryd.func64 (by kernel_rfl) rfl) rfl rfl rfl (by kernel_rfl) rfl rfl (fun _ => rfl) rfl (fun _ => rfl) (fun x w1 _ hx => M5.out x w1 hx) ?_
    refine chain_bin (.bool true) _ _ _ _ _ (setV A5) (setV A5) (fun _ _ => Below.refl _ _) rfl rfl (by kernel_rfl) (by kernel_rfl) rfl rfl (fun w => eql_set_same _ _ _ w) ?_
    refine chain_pick (.bool true) _ _ _ true (fun _ _ => Below.refl _ _) rfl rfl (by kernel_rfl) (by kernel_rfl) rfl rfl ?_
    refine chain_move (.bool true) _ (fun _ _ => Below.refl _ _) rfl rfl (by kernel_rfl) (by kernel_rfl) rfl ?_
    refine chain_load (setV A7) _ _ _ (fun _ _ => Below.refl _ _) rfl rfl (by kernel_rfl) (by kernel_rfl) rfl (fun w1 hC => load_set (F7.out.drew.below hC F7.out.lt)) ?_
    refine chain_new (ints_w [1, 255]) (ints_lasts _) rfl (by intro cs b h; cases h) (by kernel_rfl) (by kernel_rfl) (fun w hC => ints_new (by simp [execOp, go_sem, Instr.buildSlice, evE]) hC) ?_
    refine chain_call_use (setV A7) 144 _ 64 (fun x => [x]) _ _ (enters_of Tryd.func64 (by kernel_rfl) rfl) rfl rfl rfl (by kernel_rfl) rfl rfl (fun _ => rfl) rfl (fun _ => rfl) (fun x w1 _ hx => M7.out x w1 hx) ?_
    refine chain_bin (.bool true) _ _ _ _ _ (setV A7) (setV A7) (fun _ _ => Below.refl _ _) rfl rfl (by kernel_rfl) (by kernel_rfl) rfl rfl (fun w => eql_set_same _ _ _ w) ?_
    refine chain_pick (.bool true) _ _ _ true (fun _ _ => Below.refl _ _) rfl rfl (by kernel_rfl) (by kernel_rfl) rfl rfl ?_
    refine chain_move (.bool true) _ (fun _ _ => Below.refl _ _) rfl rfl (by kernel_rfl) (by kernel_rfl) rfl ?_
    refine chain_move (.slice a9 2 cap9) _ (fun _ _ => Below.refl _ _) rfl rfl (by kernel_rfl) (by kernel_rfl) rfl ?_
    refine chain_new (ints_w [0, 1]) (ints_lasts _) rfl (by intro cs b h; cases h) (by kernel_rfl) (by kernel_rfl) (fun w hC => ints_new (by simp [execOp, go_sem, Instr.buildSlice, evE]) hC) ?_
    refine chain_call_use (.bool true) 150 _ 25 (fun x => [.slice a9 2 cap9, x]) _ _ (enters_of Tryd.func25 (by kernel_rfl) rfl) rfl rfl rfl (by kernel_rfl) rfl rfl (fun _ => rfl) rfl (fun _ => rfl) (fun x w1 hC hx => ints_at a9 cap9 x w1 (Cells.below (w := W.drew) FC.out hC) hx) ?_
    refine chain_pick (.bool true) _ _ _ true (fun _ _ => Below.refl _ _) rfl rfl (by kernel_rfl) (by kernel_rfl) rfl rfl ?_
    refine chain_move (.bool true) _ (fun _ _ => Below.refl _ _) rfl rfl (by kernel_rfl) (by kernel_rfl) rfl ?_
    refine chain_load (setV A12) _ _ _ (fun _ _ => Below.refl _ _) rfl rfl (by kernel_rfl) (by kernel_rfl) rfl (fun w1 hC => load_set (F12.out.drew.below hC F12.out.lt)) ?_
    refine chain_new (ints_w [2, 5]) (ints_lasts _) rfl (by intro cs b h; cases h) (by kernel_rfl) (by kernel_rfl) (fun w hC => ints_new (by simp [execOp, go_sem, Instr.buildSlice, evE]) hC) ?_
    refine chain_call_use (setV A12) 155 _ 64 (fun x => [x]) _ _ (enters_of Tryd.func64 (by kernel_rfl) rfl) rfl rfl rfl (by kernel_rfl) rfl rfl (fun _ => rfl) rfl (fun _ => rfl) (fun x w1 _ hx => M12.out x w1 hx) ?_
    refine chain_bin (.bool true) _ _ _ _ _ (setV A12) (setV A12) (fun _ _ => Below.refl _ _) rfl rfl (by kernel_rfl) (by kernel_rfl) rfl rfl (fun w => eql_set_same _ _ _ w) ?_
    refine chain_pick (.bool true) _ _ _ true (fun _ _ => Below.refl _ _) rfl rfl (by kernel_rfl) (by kernel_rfl) rfl rfl ?_
    refine chain_move (.bool true) _ (fun _ _ => Below.refl _ _) rfl rfl (by kernel_rfl) (by kernel_rfl) rfl ?_
    refine chain_move (.int .i64 10) _ (fun _ _ => Below.refl _ _) rfl rfl (by kernel_rfl) (by kernel_rfl) rfl ?_
    refine chain_bin (.bool true) _ _ _ _ _ (.int .i64 10) (.int .i64 10) (fun _ _ => Below.refl _ _) rfl rfl (by kernel_rfl) (by kernel_rfl) rfl rfl (fun w => eql_int_same _ _ _ _ w) ?_
    refine chain_pick (.bool true) _ _ _ true (fun _ _ => Below.refl _ _) rfl rfl (by kernel_rfl) (by kernel_rfl) rfl rfl ?_
    refine chain_move (.bool true) _ (fun _ _ => Below.refl _ _) rfl rfl (by kernel_rfl) (by kernel_rfl) rfl ?_
    refine chain_load (setV A17) _ _ _ (fun _ _ => Below.refl _ _) rfl rfl (by kernel_rfl) (by kernel_rfl) rfl (fun w1 hC => load_set (F17.out.drew.below hC F17.out.lt)) ?_
    refine chain_new (ints_w [0, 3, 4, 5, 9, 10]) (ints_lasts _) rfl (by intro cs b h; cases h) (by kernel_rfl) (by kernel_rfl) (fun w hC => ints_new (by simp [execOp, go_sem, Instr.buildSlice, evE]) hC) ?_
    refine chain_call_use (setV A17) 165 _ 64 (fun x => [x]) _ _ (enters_of Tryd.func64 (by kernel_rfl) rfl) rfl rfl rfl (by kernel_rfl) rfl rfl (fun _ => rfl) rfl (fun _ => rfl) (fun x w1 _ hx => M17.out x w1 hx) ?_
    refine chain_bin (.bool true) _ _ _ _ _ (setV A17) (setV A17) (fun _ _ => Below.refl _ _) rfl rfl (by kernel_rfl) (by kernel_rfl) rfl rfl (fun w => eql_set_same _ _ _ w) ?_
    refine chain_pick (.bool true) _ _ _ true (fun _ _ => Below.refl _ _) rfl rfl (by kernel_rfl) (by kernel_rfl) rfl rfl ?_
    refine chain_move (.bool true) _ (fun _ _ => Below.refl _ _) rfl rfl (by kernel_rfl) (by kernel_rfl) rfl ?_
    refine chain_load (.int .i64 47) _ _ _ (fun _ _ => Below.refl _ _) rfl rfl (by kernel_rfl) (by kernel_rfl) rfl (fun w1 hC => load_int ((F19.out.drew.below hC F19.out.lt).cell1.1)) ?_
    refine chain_bin (.bool true) _ _ _ _ _ (.int .i64 47) (.int .i64 47) (fun _ _ => Below.refl _ _) rfl rfl (by kernel_rfl) (by kernel_rfl) rfl rfl (fun w => eql_int_same _ _ _ _ w) ?_
    refine chain_pick (.bool true) _ _ _ true (fun _ _ => Below.refl _ _) rfl rfl (by kernel_rfl) (by kernel_rfl) rfl rfl ?_
    refine chain_move (.bool true) _ (fun _ _ => Below.refl _ _) rfl rfl (by kernel_rfl) (by kernel_rfl) rfl ?_
    refine chain_load (setV A17) _ _ _ (fun _ _ => Below.refl _ _) rfl rfl (by kernel_rfl) (by kernel_rfl) rfl (fun w1 hC => load_set (F17.out.drew.below hC F17.out.lt)) ?_
    refine chain_call (.string ⟨#[48, 44, 51, 45, 53, 44, 57, 45, 49, 48]⟩) 57 [setV A17] _ _ (enters_of Tryd.func57 (by kernel_rfl) rfl) rfl rfl rfl (by kernel_rfl) (by kernel_rfl) rfl rfl (fun w1 hC => HPr.out w1 (gl_old FG.out hC)) ?_
    refine chain_bin (.bool true) _ _ _ _ _ (.string ⟨#[48, 44, 51, 45, 53, 44, 57, 45, 49, 48]⟩) (.string ⟨#[48, 44, 51, 45, 53, 44, 57, 45, 49, 48]⟩) (fun _ _ => Below.refl _ _) rfl rfl (by kernel_rfl) (by kernel_rfl) rfl rfl (fun w => eql_string_same _ _ _ _ w) ?_
    refine chain_pick (.bool true) _ _ _ true (fun _ _ => Below.refl _ _) rfl rfl (by kernel_rfl) (by kernel_rfl) rfl rfl ?_
    refine chain_move (.bool true) _ (fun _ _ => Below.refl _ _) rfl rfl (by kernel_rfl) (by kernel_rfl) rfl ?_
    refine chain_new (ints_w [200]) (ints_lasts _) rfl (by intro cs b h; cases h) (by kernel_rfl) (by kernel_rfl) (fun w hC => ints_new (by simp [execOp, go_sem, Instr.buildSlice, evE]) hC) ?_
    refine chain_call_use (setV A200) 179 _ 64 (fun x => [x]) _ _ (enters_of Tryd.func64 (by kernel_rfl) rfl) rfl rfl rfl (by kernel_rfl) rfl rfl (fun _ => rfl) rfl (fun _ => rfl) (fun x w1 _ hx => M200.out x w1 hx) ?_
    refine chain_new (ints_w [0, 1, 199]) (ints_lasts _) rfl (by intro cs b h; cases h) (by kernel_rfl) (by kernel_rfl) (fun w hC => ints_new (by simp [execOp, go_sem, Instr.buildSlice, evE]) hC) ?_
    refine chain_call_use (setV A199) 181 _ 64 (fun x => [x]) _ _ (enters_of Tryd.func64 (by kernel_rfl) rfl) rfl rfl rfl (by kernel_rfl) rfl rfl (fun _ => rfl) rfl (fun _ => rfl) (fun x w1 _ hx => M199.out x w1 hx) ?_
    refine chain_call (.int .i64 1) 43 [setV A200, setV A199] _ _ (enters_of Tryd.func43 (by kernel_rfl) rfl) rfl rfl rfl (by kernel_rfl) (by kernel_rfl) rfl rfl (fun w1 _ => HCmp.out w1) ?_
    refine chain_bin (.bool true) _ _ _ _ _ (.int .i64 1) (.int .i64 1) (fun _ _ => Below.refl _ _) rfl rfl (by kernel_rfl) (by kernel_rfl) rfl rfl (fun w => eql_int_same _ _ _ _ w) ?_
    refine chain_pick (.bool true) _ _ _ true (fun _ _ => Below.refl _ _) rfl rfl (by kernel_rfl) (by kernel_rfl) rfl rfl ?_
    refine chain_move (.bool true) _ (fun _ _ => Below.refl _ _) rfl rfl (by kernel_rfl) (by kernel_rfl) rfl ?_
    refine chain_load (setV A17) _ _ _ (fun _ _ => Below.refl _ _) rfl rfl (by kernel_rfl) (by kernel_rfl) rfl (fun w1 hC => load_set (F17.out.drew.below hC F17.out.lt)) ?_
    refine chain_call (.int .i64 6) 37 [setV A17] _ _ (enters_of Tryd.func37 (by kernel_rfl) rfl) rfl rfl rfl (by kernel_rfl) (by kernel_rfl) rfl rfl (fun w1 _ => HSz.out w1) ?_
    refine chain_bin (.bool true) _ _ _ _ _ (.int .i64 6) (.int .i64 6) (fun _ _ => Below.refl _ _) rfl rfl (by kernel_rfl) (by kernel_rfl) rfl rfl (fun w => eql_int_same _ _ _ _ w) ?_
    refine chain_pick (.bool true) _ _ _ true (fun _ _ => Below.refl _ _) rfl rfl (by kernel_rfl) (by kernel_rfl) rfl rfl ?_
    refine chain_assign (.bool true) _ (fun _ _ => Below.refl _ _) rfl rfl (by kernel_rfl) (by kernel_rfl) rfl ?_
    refine chain_end (by rfl) ?_
    intro xs w1 hCw1 hrew1
    simp only [layE, List.foldr_cons, List.foldr_nil, List.set_cons_succ, List.set_cons_zero]
    go_wp2_with fail
    have hC : Below W.drew.heap.size W.drew w1 := hCw1
    have hK1 : w1.heap[D]? = some (.deferred (some [])) := (hC.block D (Array.getElem?_eq_some_iff.1 FK.out).1).trans FK.out
    refine ⟨by simp, .inl ⟨_, _, rfl, run_takeDeferred hK1, ?_⟩⟩
    exact ⟨_, results_tmp rfl _ _ _, rfl, (old_end FB.out hCw1 FB.out.size).trans (belowK_b (w := w) (Nat.le_refl _) w1 D _ _ FD.out hK1 rfl rfl)⟩
  case stop =>
    rintro D c pre W _ _ h _
    exact h.elim
end Go.Proofs.YtjifajigigflkaaDoor
