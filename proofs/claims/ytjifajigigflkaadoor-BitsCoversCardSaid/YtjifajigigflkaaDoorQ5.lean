/- All goes through the numbers; Members, Rank, isBetter. -/
import Derived.Test.YtjifajigigflkaaDoorQ4
import Derived.RangeFuncNested
import Derived.RangeFuncBound
import Derived.RangeFuncCalls
import Derived.RangeFuncLeaves
import Derived.Shelf.Abstract
import Derived.Shelf.RegionOpen
import Derived.WalkKit
import Derived.OwnWalkIn
import Derived.TacticsInMore
import Derived.LoopNIn
import Derived.LoopIn
import Derived.Lib.Hide
import Derived.Maps.AppendAt
import Derived.RangeFuncFrom
import Derived.RangeFuncWrites
import Derived.Laws.AppendOwn
/- Package bits: All, and the members of a set in increasing order. -/
namespace Go.Proofs.YtjifajigigflkaaDoor
set_option linter.unusedSimpArgs false
set_option linter.unusedVariables false
open Go Go.RowKit Go.Shelf
attribute [local go_sem] Oper.semAt_some

/-- The numbers of N from k on, at most f of them looked at. -/
def memF (N : Nat) : Nat → Nat → List Nat
  | 0, _ => []
  | f + 1, k => if N.testBit k then k :: memF N f (k + 1) else memF N f (k + 1)
theorem memF_yes {N f k : Nat} (h : N.testBit k = true) : memF N (f + 1) k = k :: memF N f (k + 1) := by rw [memF, if_pos h]
theorem memF_no {N f k : Nat} (h : ¬N.testBit k = true) : memF N (f + 1) k = memF N f (k + 1) := by rw [memF, if_neg h]
theorem memF_none {N : Nat} : ∀ {f k : Nat}, nx N f k = none → memF N f k = []
  | 0, _, _ => rfl
  | f + 1, k, h => by
    unfold nx at h
    split at h
    · cases h
    · rename_i hk; rw [memF_no hk]; exact memF_none h
theorem memF_some {N : Nat} : ∀ {f k j : Nat}, nx N f k = some j → memF N f k = j :: memF N (f - (j + 1 - k)) (j + 1)
  | 0, _, _, h => by cases h
  | f + 1, k, j, h => by
    unfold nx at h
    split at h
    · rename_i hk
      obtain rfl := Option.some.inj h
      rw [memF_yes hk, show f + 1 - (k + 1 - k) = f by omega]
    · rename_i hk
      obtain ⟨h1, _, _, _⟩ := of_nx_some h
      rw [memF_no hk, memF_some h, show f + 1 - (j + 1 - k) = f - (j + 1 - (k + 1)) by omega]
/-- The numbers of N above n. -/
def mfrom (N : Nat) (n : Int) : List Nat := if 255 ≤ n then [] else memF N (256 - (max n (-1) + 1).toNat) (max n (-1) + 1).toNat
/-- The numbers of N, in increasing order. -/
def mem (N : Nat) : List Nat := memF N 256 0
theorem mem_eq (N : Nat) : mem N = mfrom N (-1) := by
  unfold mfrom mem
  rw [if_neg (by decide), show (max (-1 : Int) (-1) + 1).toNat = 0 by decide]
theorem mfrom_none {N : Nat} {n : Int} (h : nextO N n = none) : mfrom N n = [] := by
  unfold nextO at h
  unfold mfrom
  split
  · rfl
  · rename_i hn; rw [if_neg hn] at h; exact memF_none h
theorem mfrom_some {N j : Nat} {n : Int} (h : nextO N n = some j) : mfrom N n = j :: mfrom N j := by
  obtain ⟨h1, h2, _, _⟩ := of_next_some h
  unfold nextO at h
  split at h
  · cases h
  · rename_i hn
    unfold mfrom
    rw [if_neg hn, memF_some h]
    congr 1
    split
    · rename_i hj
      rw [show 256 - (max n (-1) + 1).toNat - (j + 1 - (max n (-1) + 1).toNat) = 0 by omega]; rfl
    · rw [show (max (j : Int) (-1) + 1).toNat = j + 1 by omega, show 256 - (max n (-1) + 1).toNat - (j + 1 - (max n (-1) + 1).toNat) = 256 - (j + 1) by omega]
theorem memF_iff {N : Nat} : ∀ {f k i : Nat}, i ∈ memF N f k ↔ (k ≤ i ∧ i < k + f ∧ N.testBit i = true)
  | 0, k, i => by unfold memF; simp; omega
  | f + 1, k, i => by
    by_cases hk : N.testBit k = true
    · rw [memF_yes hk, List.mem_cons, memF_iff]
      constructor
      · rintro (rfl | ⟨h1, h2, h3⟩)
        · exact ⟨Nat.le_refl _, by omega, hk⟩
        · exact ⟨by omega, by omega, h3⟩
      · rintro ⟨h1, h2, h3⟩
        by_cases h : i = k
        · exact .inl h
        · exact .inr ⟨by omega, by omega, h3⟩
    · rw [memF_no hk, memF_iff]
      constructor
      · rintro ⟨h1, h2, h3⟩; exact ⟨by omega, by omega, h3⟩
      · rintro ⟨h1, h2, h3⟩
        have : i ≠ k := fun e => hk (e ▸ h3)
        exact ⟨by omega, by omega, h3⟩
theorem mem_iff {N i : Nat} (h : N < 2 ^ 256) : i ∈ mem N ↔ N.testBit i = true := by
  unfold mem
  rw [memF_iff]
  constructor
  · exact fun h => h.2.2
  · intro hi
    refine ⟨Nat.zero_le _, ?_, hi⟩
    by_cases h6 : i < 0 + 256
    · exact h6
    · rw [testBit_big h (by omega)] at hi; cases hi
theorem memF_length (N : Nat) : ∀ f k, (memF N f k).length ≤ f
  | 0, _ => Nat.le_refl _
  | f + 1, k => by
    unfold memF
    split
    · simp; exact memF_length N f (k + 1)
    · exact Nat.le_succ_of_le (memF_length N f (k + 1))
theorem mem_length (N : Nat) : (mem N).length ≤ 256 := memF_length N 256 0

theorem grown_none {W w' : World} (hb : Below W.heap.size W w') : W.grownBy w' none := ⟨hb.os, hb.tape, hb.output, hb.size, fun k hk _ => hb.block k hk⟩

theorem All_any (N : Nat) (w : World) :
    Calls Tryd.prog 24 #[setV N] w fun e w' => e = .returned (.func (.func 69) #[] #[.pointer (some ⟨w.heap.size, 0, none⟩)]) ∧ Blk w' w.heap.size (setA N) 25 ∧ Below w.heap.size w w' := by
  go_enter Tryd.func24, Tryd.ntmps24
  simp only [setV]
  go_wp2
  go_ret
  exact ⟨rfl, Blk.newW _ _ _, below_new1 _ _⟩

/-- What a round must keep for All: the globals' blocks, and the box of its set. -/
def Kb (b : Nat) (W W' : World) : Prop := W.heap.size ≤ W'.heap.size ∧ ∀ k, k < 6 ∨ k = b → W'.heap[k]? = W.heap[k]?
theorem Kb.refl (b : Nat) (W : World) : Kb b W W := ⟨Nat.le_refl _, fun _ _ => rfl⟩
theorem Kb.trans {b : Nat} {A B C : World} (h : Kb b A B) (k : Kb b B C) : Kb b A C := ⟨Nat.le_trans h.1 k.1, fun i hi => (k.2 i hi).trans (h.2 i hi)⟩
theorem Kb.of_below {b B : Nat} {A C : World} (h : Below B A C) (h6 : 6 ≤ B) (hb : b < B) : Kb b A C := ⟨h.size, fun k hk => h.block k (by omega)⟩
theorem Kb.gl {b : Nat} {A C : World} (h : Kb b A C) (hg : Gl A) : Gl C := hg.same (fun k hk => h.2 k (.inl hk)) h.1
theorem Kb.blk {b : Nat} {A C : World} {cs : Array Value} {t : TypeId} (h : Kb b A C) (hB : Blk A b cs t) : Blk C b cs t := (h.2 b (.inr rfl)).trans hB
theorem Kb.turn {b : Nat} {w : World} (h6 : 6 ≤ w.heap.size) (hb : b < w.heap.size) (W : World) (l : Nat) (o o' : Obj) (hl : w.heap.size ≤ l) (h : W.heap[l]? = some o) (_ : o.isCells = false) (_ : o.isWalk = false) : Kb b W (W.putObj l o') :=
  ⟨(grownBy_putObj' W l o').size, fun k hk => World.putObj_heap_other (by omega)⟩

/-- Numbers of which p is known. -/
abbrev MemOf (p : Nat → Prop) := { x : Nat // p x }
/-- The bare numbers. -/
def vals {p : Nat → Prop} : List (MemOf p) → List Nat
  | [] => []
  | x :: xs => x.1 :: vals xs
theorem vals_snoc {p : Nat → Prop} : ∀ (l : List (MemOf p)) (x : MemOf p), vals (l ++ [x]) = vals l ++ [x.1]
  | [], _ => rfl
  | y :: l, x => congrArg (y.1 :: ·) (vals_snoc l x)
theorem vals_length {p : Nat → Prop} : ∀ l : List (MemOf p), (vals l).length = l.length
  | [] => rfl
  | _ :: l => congrArg (· + 1) (vals_length l)

/-- How far All$1 still has to go. -/
def left : Value → Value → Nat
  | .bool true, v => 300 - (intOf v).toNat
  | _, _ => 0
set_option maxHeartbeats 400000 in
/-- All$1 goes through the numbers of its set. -/
theorem All1_stops (p : Nat → Prop) (N b n : Nat) (hp : ∀ x ∈ mem N, p x) (w : World) (hg : Gl w) (hB : Blk w b (setA N) 25) (h1 : 1 ≤ n) :
    SeqStopsK Fence.wide n Tryd.prog 69 #[.pointer (some ⟨b, 0, none⟩)] (fun x : MemOf p => #[.int .i64 (x.1 : Int)]) (Kb b) (fun xs => vals xs = mem N) (fun pre => vals pre <+: mem N) 256 w :=
  fun l J Jx W hW hJ hJx hY h0 => by
  have hbW : Hid (b < W.heap.size) := Nat.lt_of_lt_of_le hB.lt hW.size
  have HB := Lib.hid (hB.below hW hB.lt)
  have HG := Lib.hid (hg.below hW)
  obtain ⟨c0, c1, c2, c3, cf⟩ := (hB.below hW hB.lt).set4
  have H0 := Lib.hid h0
  clear hB hg hW h0
  refine callsIn_of_wp Tryd.func69 rfl trivial ?_ rfl
  simp only [Tryd.ntmps69, List.size_toArray, List.length_cons, List.length_nil, Nat.reduceAdd, Nat.reduceSub, Array.replicate_succ, Array.replicate_zero, List.push_toArray, List.append_toArray, List.nil_append, List.cons_append]
  gi_wp2_with (first | (refine ⟨trivial, ?_⟩; gi_at_call 21; refine (callsIn_wide.2 (next_any N (-1) W HG.out)).mono ?_; rintro e w2 ⟨rfl, hb2⟩))
  have HK0 : Hid (Kb b W w2) := Kb.of_below hb2 HG.out.size hbW.out
  have HJ0 : Hid (J [] w2) := hJ [] W w2 none H0.out (grown_none hb2) (fun _ e => by cases e)
  clear c0 c1 c2 c3 cf
  gi_loopw [3, 4] (fun t3 t4 wr => ∃ (pre : List (MemOf p)) (m : Int), mem N = vals pre ++ mfrom N m ∧ t3 = .int .i64 ((nextO N m).getD 0 : Nat) ∧ t4 = .bool (nextO N m).isSome ∧ J pre wr ∧ Kb b W wr) (fun t3 t4 _ => left t4 t3)
  case atStart => exact ⟨[], -1, by rw [mem_eq]; rfl, rfl, rfl, HJ0.out, HK0.out⟩
  case round =>
    clear hb2 HK0 HJ0
    obtain ⟨pre, m, hm, rfl, rfl, hj, hk⟩ := hrel
    have HM := Lib.hid hm
    have HJ := Lib.hid hj
    have HK := Lib.hid hk
    clear hm hj hk
    cases hn : nextO N m with
    | none =>
      gi_wp2
      go_end0
      exact ⟨⟨_, rfl⟩, .inl ⟨pre, by rw [HM.out, mfrom_none hn, List.append_nil], HJ.out⟩⟩
    | some j =>
      obtain ⟨hj1, hj2, _, _⟩ := of_next_some hn
      have hmem : Hid (mem N = vals pre ++ [j] ++ mfrom N j) := by rw [Hid, HM.out, mfrom_some hn]; simp
      have hpj : p j := hp j (by rw [hmem.out]; simp)
      have hlen : pre.length < 256 := by
        have h := mem_length N
        rw [hmem.out] at h
        simp [vals_length] at h; omega
      obtain ⟨fn, tmps, assign, body, hy, hR⟩ := hY pre ⟨j, hpj⟩ wr HJ.out hlen
      dsimp only at hy
      gi_wp2
      refine hR.mono ?_
      rintro e W3 (⟨rfl, hJ3, hk3⟩ | ⟨rfl, hJx3⟩)
      · have HJ3 := Lib.hid hJ3
        have HK3 : Hid (Kb b W W3) := HK.out.trans hk3
        obtain ⟨c0, c1, c2, c3, cf⟩ := (HK3.out.blk HB.out).set4
        have HG3 := Lib.hid (HK3.out.gl HG.out)
        clear hJ3 hk3
        gi_wp2_with (first | (refine ⟨trivial, ?_⟩; gi_at_call 21; refine (callsIn_wide.2 (next_any N j W3 HG3.out)).mono ?_; rintro e w3 ⟨rfl, hb3⟩))
        go_roundw
        case rel => exact ⟨pre ++ [⟨j, hpj⟩], j, by rw [vals_snoc]; exact hmem.out, rfl, rfl, hJ (pre ++ [⟨j, hpj⟩]) W3 w3 none HJ3.out (grown_none hb3) (fun _ e => by cases e), HK3.out.trans (Kb.of_below hb3 HG3.out.size (Nat.lt_of_lt_of_le hbW.out HK3.out.1))⟩
        case measure =>
          have e1 : left (.bool (some j).isSome) (.int .i64 ((some j).getD 0 : Nat)) = 300 - j := by simp [left, intOf]
          rw [e1]
          cases h2 : nextO N j with
          | none => simp [left]; omega
          | some k =>
            obtain ⟨h3, h4, _, _⟩ := of_next_some h2
            simp [left, intOf]; omega
      · gi_wp2
        refine bodyPost_ret (results_none rfl _ _ _) rfl ?_
        exact ⟨⟨_, rfl⟩, .inr ⟨pre ++ [⟨j, hpj⟩], ⟨mfrom N j, by rw [hmem.out, vals_snoc]⟩, hJx3⟩⟩
end Go.Proofs.YtjifajigigflkaaDoor
/- slices.AppendSeq, slices.Collect over All; package bits: Members. -/
namespace Go.Proofs.YtjifajigigflkaaDoor
set_option linter.unusedSimpArgs false
set_option linter.unusedVariables false
open Go Go.RowKit Go.Shelf
attribute [local go_sem] Oper.semAt_some

theorem infoInt : (Tryd.prog.info? 3).map (fun i => (i.zero, i.size, i.bytes)) = some (some (.int .i64 0), 1, 8) := by kernel_rfl
/-- A list of numbers as values. -/
def intsL (xs : List Nat) : List Value := xs.map fun (x : Nat) => Value.int .i64 (x : Int)
theorem intsL_length (xs : List Nat) : (intsL xs).length = xs.length := List.length_map _
theorem intsL_snoc (xs : List Nat) (x : Nat) : intsL (xs ++ [x]) = intsL xs ++ [.int .i64 (x : Int)] := by simp [intsL]

set_option maxRecDepth 100000 in
set_option maxHeartbeats 2000000 in
theorem appendSeq_All (N b : Nat) (w : World) (hg : Gl w) (hB : Blk w b (setA N) 25) :
    CallsIn Fence.wide 8 Tryd.prog 88 #[.slice none 0 0, .func (.func 69) #[] #[.pointer (some ⟨b, 0, none⟩)]] w fun e w' => ∃ v, e = .returned v ∧ w'.ownsRow w.heap.size 3 1 v (mem N).length (intsL (mem N)) ∧ Below w.heap.size w w' := by
  have hml := mem_length N
  have hbl := hB.lt
  obtain ⟨i0, hi, hz0, hz1, hz2⟩ := info_parts infoInt
  refine callsIn_of_wp_marks Tryd.func88 rfl trivial ?_ rfl
  simp only [Tryd.ntmps88, List.size_toArray, List.length_cons, List.length_nil, Nat.reduceAdd, Nat.reduceSub, Array.replicate_succ, Array.replicate_zero, List.push_toArray, List.append_toArray, List.nil_append, List.cons_append]
  gi_wp2
  have bO := Boxed.new w 22 (.slice none 0 0)
  have hB1 : Blk (w.alloc (.cells #[.slice none 0 0] 22)) b (setA N) 25 := hB.alloc _
  have hg1 : Gl (w.alloc (.cells #[.slice none 0 0] 22)) := hg.below (below_new1 _ _)
  refine wpIn_rangeFunc_ownG (F := Fence.wide) (n := 8) rfl (by decide) (gf := 69) (lb := #[.pointer (some ⟨b, 0, none⟩)]) rfl trivial (enters_of Tryd.func69 (by kernel_rfl) rfl)
    (All1_stops (fun _ => True) N b (8 - 1) (fun _ _ => trivial) _ hg1 hB1 (by decide)) Kb.trans (Kb.turn hg1.size hB1.lt) (Below.refl _ _) (fun _ => rfl)
    (fun (pre : List (MemOf fun _ => True)) W => (∃ v, Boxed W w.heap.size 22 v ∧ W.ownsRow w.heap.size 3 1 v pre.length (intsL (vals pre)) ∧ v = v) ∧ Below w.heap.size w W)
    (fun _ _ _ => False)
    (OwnFrom.and (Own.from (holdsRow_own w.heap.size w.heap.size 22 3 1 (fun (pre : List (MemOf fun _ => True)) => pre.length) (fun pre => intsL (vals pre)) (fun pre v => v = v)) _) (ownFrom_below (Nat.le_refl _) (by simp)))
    (fun _ _ _ _ _ hs _ _ => hs)
    ⟨⟨_, bO, World.ownsRow_nil _ _ _ _, rfl⟩, below_new1 _ _⟩
    (fun x : MemOf (fun _ => True) => { tmps := #[.slice none 0 0, .func (.func 69) #[] #[.pointer (some ⟨b, 0, none⟩)], .pointer (some ⟨w.heap.size, 0, none⟩), undef, .slice none 0 0, .int .i64 (x.1 : Int), .func (.func 69) #[] #[.pointer (some ⟨b, 0, none⟩)], .int .i64 (x.1 : Int), undef, undef, undef, undef, undef], defers := [] }) ?assign ?body ?done ?stop
  case assign =>
    intro l x W K hK
    gi_wp2
    exact hK
  case body =>
    rintro l pre x W ⟨⟨v, hv, hrow, _⟩, hBW⟩ hlt
    have hc := hv.cell
    have h6 := hg.size
    gi_wp2_with (gi_at_builtin; refine wpListIn_append_own _ rfl _ _ 22 rfl w.heap.size 3 i0 (.int .i64 0) 1 8 Tryd.underlying22 hi hz0 hz1 hz2 rfl (by decide) _ _ _ rfl (hrow.alloc _) ⟨W.heap.size, 0, none⟩ 1 1 [.int .i64 (x.1 : Int)] rfl rfl (cell_one_new _ _ _) (by simp [Value.oneCell']) (by simp only [maxLen]; omega) (by omega) (by have := hBW.size; simp; omega) ?_; intro v' w1 hown' hgrow _; obtain ⟨g', cap', rfl⟩ := ownsRow_succ hown'; obtain ⟨hv1, hv2, hr2, hk2, hb2⟩ := hv.appended (by decide) hrow hBW.size (Nat.le_refl _) hown' hgrow; have hc1 := hv1.cell; have hf1 := hv1.frozen)
    exact ⟨hk2.from _, Kb.of_below hb2 h6 hbl, ⟨_, hv2, by rw [vals_snoc, intsL_snoc]; simpa using hr2⟩, hBW.trans hb2⟩
  case done =>
    rintro D ys W hD hys ⟨⟨v, hv, hrow, _⟩, hBW⟩ hK
    have hc := hv.cell
    gi_wp2
    refine ⟨by simp, .inl ⟨_, _, rfl, run_takeDeferred hK, ?_⟩⟩
    rw [show ys.length = (mem N).length by rw [← hys, vals_length], hys] at hrow
    exact ⟨_, results_tmp rfl _ _ _, v, rfl, ownsRow_putObj hrow _ hK rfl, hBW.trans (belowK_b (w := w) (Nat.le_refl _) W D _ _ (by simp at hD; omega) hK rfl rfl)⟩
  case stop =>
    rintro D c pre W _ _ h _
    exact h.elim
theorem collect_All (N b : Nat) (w : World) (hg : Gl w) (hB : Blk w b (setA N) 25) :
    Calls Tryd.prog 70 #[.func (.func 69) #[] #[.pointer (some ⟨b, 0, none⟩)]] w fun e w' => ∃ v, e = .returned v ∧ w'.ownsRow w.heap.size 3 1 v (mem N).length (intsL (mem N)) ∧ Below w.heap.size w w' := by
  go_enter Tryd.func70, Tryd.ntmps70
  go_wp2_with (first | (go_at_call 88; refine (callsIn_wide.1 (appendSeq_All N b w hg hB)).mono ?_; rintro e w' ⟨v, rfl, hr, hb⟩))
  go_ret
  exact ⟨v, rfl, hr, hb⟩
theorem ownsRow_le {W : World} {base base' : Nat} {e : TypeId} {size : Nat} {v : Value} {k : Nat} {xs : List Value} (h : W.ownsRow base e size v k xs) (hb : base' ≤ base) : W.ownsRow base' e size v k xs :=
  ⟨h.1, h.2.imp id fun ⟨g, cap, cur, h1, h2, h3, h4⟩ => ⟨g, cap, cur, h1, Nat.le_trans hb h2, h3, h4⟩⟩
theorem ownsRow_below {W W' : World} {base : Nat} {e : TypeId} {size : Nat} {v : Value} {k : Nat} {xs : List Value} (h : W.ownsRow base e size v k xs) (hb : Below W.heap.size W W') : W'.ownsRow base e size v k xs :=
  ⟨h.1, h.2.imp id fun ⟨g, cap, cur, h1, h2, h3, h4⟩ => ⟨g, cap, cur, h1, h2, (hb.block g (Array.getElem?_eq_some_iff.1 h3).1).trans h3, h4⟩⟩
/-- What a slice that owns a row lets read. -/
theorem ownsRow_cells {W : World} {base : Nat} {e : TypeId} {v : Value} {k : Nat} {xs : List Value} (h : W.ownsRow base e 1 v k xs) : xs.length = k ∧ ∃ a cap, v = .slice a k cap ∧ Cells W a xs ∧ (xs = [] ∨ ∃ b, a = some ⟨b, 0, none⟩ ∧ base ≤ b) := by
  obtain ⟨hl, h⟩ := h
  rw [Nat.mul_one] at hl
  refine ⟨hl, ?_⟩
  rcases h with ⟨rfl, rfl⟩ | ⟨g, cap, cur, rfl, hg, hb, h1, h2, h3, h4⟩
  · exact ⟨none, 0, rfl, .inl (List.length_eq_zero_iff.1 hl), .inl (List.length_eq_zero_iff.1 hl)⟩
  · refine ⟨some ⟨g, 0, none⟩, cap, rfl, .inr ⟨g, 0, rfl, fun i v hi => ?_⟩, .inr ⟨g, rfl, hg⟩⟩
    rw [Nat.mul_one] at h4
    rw [← h4, List.getElem?_take] at hi
    split at hi
    · rw [Nat.zero_add]
      simp only [World.cell?, hb]
      rw [← Array.getElem?_toList]; exact hi
    · cases hi
theorem members_any (N : Nat) (w : World) (hg : Gl w) :
    Calls Tryd.prog 26 #[setV N] w fun e w' => ∃ v, e = .returned v ∧ w'.ownsRow w.heap.size 3 1 v (mem N).length (intsL (mem N)) ∧ Below w.heap.size w w' := by
  go_enter Tryd.func26, Tryd.ntmps26
  simp only [setV]
  go_wp2_with (first | (go_at_call 24; refine Calls.named (fun V => Below w.heap.size w V) (below_new1 _ _) ?_; intro W hW; refine (All_any N W).mono ?_; rintro e w2 ⟨rfl, hB, hb⟩; have hb2 := hW.trans (hb.mono hW.size)) | (go_at_call 70; refine (collect_All N _ _ (hg.below hb2) hB).mono ?_; rintro e w3 ⟨v, rfl, hr, hb3⟩))
  go_ret
  exact ⟨v, rfl, ownsRow_le hr hb2.size, hb2.trans (hb3.mono hb2.size)⟩
end Go.Proofs.YtjifajigigflkaaDoor
/- Worlds that differ from an earlier one in a few named blocks alone, and new ones. -/
namespace Go.Proofs.YtjifajigigflkaaDoor
set_option linter.unusedSimpArgs false
set_option linter.unusedVariables false
open Go Go.RowKit

/-- All blocks of w but those of S are in w' as they were. -/
structure But (S : Nat → Prop) (w w' : World) : Prop where
  os : w'.os = w.os
  tape : w'.tape = w.tape
  output : w'.output = w.output
  size : w.heap.size ≤ w'.heap.size
  block : ∀ k, k < w.heap.size → ¬ S k → w'.heap[k]? = w.heap[k]?
theorem But.refl (S : Nat → Prop) (w : World) : But S w w := ⟨rfl, rfl, rfl, Nat.le_refl _, fun _ _ _ => rfl⟩
theorem But.trans {S S' : Nat → Prop} {a b c : World} (h : But S a b) (k : But S' b c) (hs : ∀ i, i < a.heap.size → S' i → S i) : But S a c :=
  ⟨k.os.trans h.os, k.tape.trans h.tape, k.output.trans h.output, Nat.le_trans h.size k.size, fun i hi hn => (k.block i (Nat.lt_of_lt_of_le hi h.size) (fun h' => hn (hs i hi h'))).trans (h.block i hi hn)⟩
theorem But.mono {S S' : Nat → Prop} {a b : World} (h : But S a b) (hs : ∀ i, i < a.heap.size → S i → S' i) : But S' a b :=
  ⟨h.os, h.tape, h.output, h.size, fun i hi hn => h.block i hi (fun h' => hn (hs i hi h'))⟩
theorem But.of_below {S : Nat → Prop} {w w' : World} (h : Below w.heap.size w w') : But S w w' := ⟨h.os, h.tape, h.output, h.size, fun k hk _ => h.block k hk⟩
theorem But.below {S : Nat → Prop} {w w' : World} (h : But S w w') {B : Nat} (hB : B ≤ w.heap.size) (hs : ∀ k, k < B → ¬ S k) : Below B w w' := ⟨h.os, h.tape, h.output, h.size, fun k hk => h.block k (by omega) (hs k hk)⟩
theorem But.blk {S : Nat → Prop} {w w' : World} {b : Nat} {cs : Array Value} {t : TypeId} (h : But S w w') (hB : Blk w b cs t) (hb : ¬ S b) : Blk w' b cs t := (h.block b hB.lt hb).trans hB
theorem But.grown {S : Nat → Prop} {w w' : World} {row : Option Nat} (hg : w.grownBy w' row) (hr : ∀ k, row = some k → S k) : But S w w' :=
  ⟨hg.os, hg.tape, hg.output, hg.size, fun k hk hn => hg.block k hk (fun e => hn (hr k e.symm))⟩
theorem But.setCell {S : Nat → Prop} {w : World} {a : Addr} (h : S a.block) (u : Value) : But S w (w.setCell a u) :=
  ⟨rfl, rfl, rfl, by simp [World.setCell], fun k hk hn => Below.heap_setCell _ _ _ _ (fun e => hn (e ▸ h))⟩
theorem But.gl {S : Nat → Prop} {w w' : World} (h : But S w w') (hg : Gl w) (hs : ∀ k, k < 6 → ¬ S k) : Gl w' := hg.grown (Nat.le_refl 6) (h.below hg.size hs)
/-- A block of cells is one of the invariant's own. -/
theorem blk_own {β : Type} (B b : Nat) (cs : β → Array Value) (t : TypeId) : OwnFrom B (fun s W => Blk W b (cs s) t) := by
  intro s W W' row hs hg hr
  refine (hg.block b (Blk.lt hs) (fun e => ?_)).trans hs
  obtain ⟨_, o, ho, hc⟩ := hr b e.symm
  have := hs
  unfold Blk at this
  rw [this] at ho
  cases ho
  exact absurd hc (by simp [Obj.isCells])
theorem Blk.put1 {w : World} {b : Nat} {v : Value} {t : TypeId} (h : Blk w b #[v] t) (u : Value) : Blk (w.setCell ⟨b, 0, none⟩ u) b #[u] t := by
  have := h.set 0 u
  simpa using this
theorem Blk.cell1 {w : World} {b : Nat} {v : Value} {t : TypeId} (h : Blk w b #[v] t) : w.cell? ⟨b, 0, none⟩ = some v ∧ w.frozen? ⟨b, 0, none⟩ = false := ⟨by rw [h.cell]; rfl, h.frozen 0⟩
theorem Blk.new1 (w : World) (o : Obj) (cs : Array Value) (t : TypeId) : Blk ((w.alloc o).alloc (.cells cs t)) (w.heap.size + 1) cs t := by
  have := Blk.new (w.alloc o) cs t
  rwa [show (w.alloc o).heap.size = w.heap.size + 1 by simp] at this
theorem CallsIn.named {F : Fence} {n : Nat} {P : Program} {f : FuncId} {args : Array Value} {Q : Ending → World → Prop} {W : World} (C : World → Prop) (hC : C W) (h : ∀ V, C V → CallsIn F n P f args V Q) : CallsIn F n P f args W Q := h W hC
theorem keeps_set {B b i : Nat} {w : World} {cs : Array Value} {t : TypeId} (h : Blk w b cs t) (u : Value) : KeepsFrom B w (w.setCell ⟨b, i, none⟩ u) where
  size := by simp [World.setCell]
  same := fun k o _ hk ho => by
    rw [Below.heap_setCell]
    · exact hk
    · intro e
      have e' : k = b := e
      subst e'
      have h' : w.heap[k]? = some (.cells cs t (0, 0)) := h
      rw [h'] at hk
      cases hk
      exact absurd ho (by simp [Obj.isCells])
theorem keeps_drew (B : Nat) (w : World) : KeepsFrom B w w.drew := ⟨Nat.le_refl _, fun _ _ _ h _ => h⟩
theorem keeps_below {B : Nat} {w w' : World} (h : Below w.heap.size w w') : KeepsFrom B w w' := ⟨h.size, fun k o _ hk _ => (h.block k (Array.getElem?_eq_some_iff.1 hk).1).trans hk⟩
end Go.Proofs.YtjifajigigflkaaDoor
/- The place of a set among the sets of its size: plain mathematics, no Go. -/
namespace Go.Proofs.YtjifajigigflkaaDoor
set_option linter.unusedSimpArgs false
set_option linter.unusedVariables false

/-- The sum that Rank takes: the i-th number n (from k on) counts ch n (i + 1). -/
def rk : List Nat → Nat → Nat
  | [], _ => 0
  | n :: l, k => ch n (k + 1) + rk l (k + 1)
theorem rk_snoc : ∀ (l : List Nat) (n k : Nat), rk (l ++ [n]) k = rk l k + ch n (k + l.length + 1)
  | [], n, k => by simp [rk]
  | a :: l, n, k => by
    simp only [List.cons_append, rk, rk_snoc l n (k + 1), List.length_cons]
    rw [show k + 1 + l.length + 1 = k + (l.length + 1) + 1 by omega]; omega
theorem ch_mono1 {n : Nat} (k : Nat) (hn : n ≤ 62) : ch n k ≤ ch (n + 1) k := by
  cases k with
  | zero => simp [ch_zero]
  | succ k => rw [ch_pascal hn]; omega
theorem ch_mono {n m : Nat} (k : Nat) (h : n ≤ m) (hm : m ≤ 63) : ch n k ≤ ch m k := by
  induction m with
  | zero => rw [show n = 0 by omega]; exact Nat.le_refl _
  | succ m ih =>
    by_cases e : n = m + 1
    · rw [e]; exact Nat.le_refl _
    · exact Nat.le_trans (ih (by omega) (by omega)) (ch_mono1 k (by omega))
/-- A list is cut at its last number. -/
theorem list_snoc {α : Type _} (l : List α) (h : l ≠ []) : ∃ l' x, l = l' ++ [x] := ⟨l.dropLast, l.getLast h, (List.dropLast_concat_getLast h).symm⟩
theorem rk_lt : ∀ (f : Nat) (l : List Nat) (m : Nat), l.length = f → l.Pairwise (· < ·) → (∀ x ∈ l, x < m) → m ≤ 63 → rk l 0 < ch m l.length
  | 0, l, m, hf, _, _, hm => by
    rw [List.length_eq_zero_iff.1 hf]; simp [rk, ch_zero]
  | f + 1, l, m, hf, hs, ha, hm => by
    obtain ⟨l', n, rfl⟩ := list_snoc l (by rintro rfl; simp at hf)
    have hn := ha n (by simp)
    have hs' := List.pairwise_append.1 hs
    have hl' : ∀ x ∈ l', x < n := fun x hx => hs'.2.2 x hx n (by simp)
    have ih := rk_lt f l' n (by simp at hf; omega) hs'.1 hl' (by omega)
    rw [rk_snoc, List.length_append, List.length_singleton, Nat.zero_add]
    have hp := ch_pascal (n := n) (k := l'.length) (by omega)
    have hmo := ch_mono (l'.length + 1) (show n + 1 ≤ m by omega) hm
    omega
end Go.Proofs.YtjifajigigflkaaDoor
/- Package bits: Rank. -/
namespace Go.Proofs.YtjifajigigflkaaDoor
set_option linter.unusedSimpArgs false
set_option linter.unusedVariables false
open Go Go.RowKit Go.Shelf
attribute [local go_sem] Oper.semAt_some

theorem rank_limit (N j : Nat) (w : World) (hg : Gl w) (h : nextO N 61 = some j) :
    Calls Tryd.prog 47 #[setV N] w fun e w' => e = .returned (.tuple #[.int .i64 0, .int .i64 2]) ∧ Below w.heap.size w w' := by
  go_enter Tryd.func47, Tryd.ntmps47
  simp only [setV]
  go_wp2_with (first | (go_at_call 21; refine Calls.named (fun V => Below w.heap.size w V) (below_new1 _ _) ?_; intro W hW; refine (next_some h W (hg.below hW)).mono ?_; rintro e w2 ⟨rfl, hb⟩))
  go_ret2
  exact ⟨rfl, hW.trans (hb.mono hW.size)⟩
/-- What Rank knows of its blocks. -/
def RkFr (w : World) (N p : Nat) (V : World) : Prop := Blk V p #[.int .i64 0] 3 ∧ Blk V (p + 1) #[.int .i64 0] 3 ∧ w.heap.size < p ∧ Below w.heap.size w V

theorem wrap_wrap_add (a b : Int) : IntKind.i64.wrap (IntKind.i64.wrap a + b) = IntKind.i64.wrap (a + b) := by
  have h1 : ∀ n, IntKind.i64.wrap n = if 9223372036854775808 ≤ n % 18446744073709551616 then n % 18446744073709551616 - 18446744073709551616 else n % 18446744073709551616 := by
    intro n; simp [IntKind.wrap, IntKind.bits, IntKind.signed]
  rw [h1 a]
  by_cases h : 9223372036854775808 ≤ a % 18446744073709551616
  · rw [if_pos h, h1, h1 (a + b), show (a % 18446744073709551616 - 18446744073709551616 + b) % 18446744073709551616 = (a + b) % 18446744073709551616 by omega]
  · rw [if_neg h, h1, h1 (a + b), show (a % 18446744073709551616 + b) % 18446744073709551616 = (a + b) % 18446744073709551616 by omega]
theorem memF_sorted (N : Nat) : ∀ f k, (memF N f k).Pairwise (· < ·)
  | 0, k => by simp [memF]
  | f + 1, k => by
    by_cases h : N.testBit k = true
    · rw [memF_yes h]
      exact List.Pairwise.cons (fun y hy => by have := (memF_iff.1 hy).1; omega) (memF_sorted N f (k + 1))
    · rw [memF_no h]; exact memF_sorted N f (k + 1)
theorem mem_sorted (N : Nat) : (mem N).Pairwise (· < ·) := memF_sorted N 256 0
theorem rk_fit {N : Nat} (h : ∀ x ∈ mem N, x ≤ 61) : rk (mem N) 0 < 9223372036854775808 :=
  Nat.lt_trans (rk_lt _ (mem N) 62 rfl (mem_sorted N) (fun x hx => by have := h x hx; omega) (by omega)) (ch_lt (by omega))
theorem rk_step {p : Nat → Prop} (pre : List (MemOf p)) (x : MemOf p) : IntKind.i64.wrap (IntKind.i64.wrap ((rk (vals pre) 0 : Nat) : Int) + (chI x.1 ((pre.length : Int) + 1) : Nat)) = IntKind.i64.wrap ((rk (vals (pre ++ [x])) 0 : Nat) : Int) := by
  rw [wrap_wrap_add, vals_snoc, rk_snoc, vals_length, Nat.zero_add, show ((pre.length : Int) + 1) = ((pre.length + 1 : Nat) : Int) by omega, chI_nat, Int.natCast_add]
set_option maxRecDepth 100000 in
set_option maxHeartbeats 1000000 in
theorem rank_in (N : Nat) (w : World) (hg : Gl w) (hN : N < 2 ^ 256) (h : nextO N 61 = none) :
    CallsIn Fence.wide 8 Tryd.prog 47 #[setV N] w fun e w' => e = .returned (.tuple #[.int .i64 (rk (mem N) 0), .int .i64 0]) ∧ Below w.heap.size w w' := by
  have hml := mem_length N
  refine callsIn_of_wp_marks Tryd.func47 rfl trivial ?_ rfl
  simp only [Tryd.ntmps47, List.size_toArray, List.length_cons, List.length_nil, Nat.reduceAdd, Nat.reduceSub, Array.replicate_succ, Array.replicate_zero, List.push_toArray, List.append_toArray, List.nil_append, List.cons_append]
  simp only [setV]
  gi_wp2_with (first | (refine ⟨trivial, ?_⟩; gi_at_call 21; refine CallsIn.named (fun V => Blk V w.heap.size (setA N) 25 ∧ Below w.heap.size w V) ⟨Blk.newW _ _ _, below_new1 _ _⟩ ?_; rintro W ⟨hW0, hW⟩; refine (callsIn_wide.2 (next_none h W (hg.below hW))).mono ?_; rintro e w2 ⟨rfl, hb⟩; have HB0 := Lib.hid (hW0.below hb hW0.lt); have HW := Lib.hid (hW.trans (hb.mono hW.size)); clear hW hb; obtain ⟨c0, c1, c2, c3, cf⟩ := HB0.out.set4; have hlt := HB0.out.lt; clear hW0) | (refine ⟨trivial, ?_⟩; gi_at_call 24; refine CallsIn.named (fun V => RkFr w N w2.heap.size V) ⟨(Blk.new _ _ _).alloc _, Blk.new1 _ _ _ _, hlt, HW.out.trans ((below_new2 _ _ _).mono HW.out.size)⟩ ?_; rintro W3 hW3; have HW3 := Lib.hid hW3; clear hW3 c0 c1 c2 c3 cf hlt HB0 HW; refine (callsIn_wide.2 (All_any N W3)).mono ?_; rintro e w4 ⟨rfl, hB4, hb4⟩))
  obtain ⟨hp, hk, hlt, hbW⟩ := HW3.out
  have h6 := hg.size
  have hsz := hp.lt
  have hszk := hk.lt
  have hpB := hp.below hb4 hsz
  have hkB := hk.below hb4 hszk
  have hbl := hB4.lt
  have hg4 : Gl w4 := (hg.below hbW).below hb4
  have hb04 : Below w.heap.size w w4 := hbW.trans (hb4.mono hbW.size)
  have h61 : ∀ x ∈ mem N, x ≤ 61 := fun x hx => by
    have h1 := (mem_iff hN).1 hx
    have h2 : x < 256 := by
      have : x ∈ memF N 256 0 := hx
      have := (memF_iff.1 this).2.1
      omega
    have := of_next_none h x
    by_cases hc : x ≤ 61
    · exact hc
    · rw [this (by omega) h2] at h1; cases h1
  refine wpIn_rangeFunc_ownG (F := Fence.wide) (n := 8) rfl (by decide) (gf := 69) (lb := #[.pointer (some ⟨W3.heap.size, 0, none⟩)]) rfl trivial (enters_of Tryd.func69 (by kernel_rfl) rfl)
    (All1_stops (fun x => x ≤ 61) N W3.heap.size (8 - 1) h61 _ hg4 hB4 (by decide)) Kb.trans (Kb.turn hg4.size hB4.lt) (Below.refl _ _) (fun _ => rfl)
    (fun (pre : List (MemOf fun x => x ≤ 61)) W => (Blk W w2.heap.size #[.int .i64 (IntKind.i64.wrap ((rk (vals pre) 0 : Nat) : Int))] 3 ∧ Blk W (w2.heap.size + 1) #[.int .i64 (pre.length : Int)] 3) ∧ Below w.heap.size w W)
    (fun _ _ _ => False)
    (OwnFrom.and (OwnFrom.and (blk_own _ _ _ _) (blk_own _ _ (fun (pre : List (MemOf fun x => x ≤ 61)) => #[.int .i64 (pre.length : Int)]) _)) (ownFrom_below (Nat.le_refl _) hb04.size))
    (fun _ _ _ _ _ hs _ _ => hs)
    ⟨⟨hpB, hkB⟩, hb04⟩
    (fun x : MemOf (fun x => x ≤ 61) => { tmps := #[Value.agg #[Value.int IntKind.u64 ↑(word N 0), Value.int IntKind.u64 ↑(word N 1), Value.int IntKind.u64 ↑(word N 2), Value.int IntKind.u64 ↑(word N 3)],
      Value.pointer (some { block := w.heap.size, off := 0 }), Value.int IntKind.i64 0, Value.int IntKind.i64 0,
      Value.int IntKind.i64 0, Value.bool false, Value.pointer (some { block := w2.heap.size, off := 0 }),
      Value.pointer (some { block := w2.heap.size + 1, off := 0 }), .int .i64 (x.1 : Int),
      Value.tuple #[Value.int IntKind.i64 0, Value.bool false],
      Value.agg #[Value.int IntKind.u64 ↑(word N 0), Value.int IntKind.u64 ↑(word N 1), Value.int IntKind.u64 ↑(word N 2), Value.int IntKind.u64 ↑(word N 3)],
      Value.tuple #[Value.int IntKind.i64 0, Value.bool false], Value.int IntKind.i64 0, Value.bool false,
      Value.bool false,
      Value.agg #[Value.int IntKind.u64 ↑(word N 0), Value.int IntKind.u64 ↑(word N 1), Value.int IntKind.u64 ↑(word N 2), Value.int IntKind.u64 ↑(word N 3)],
      Value.func (Fn.func 69) #[] #[Value.pointer (some { block := W3.heap.size, off := 0 })], .int .i64 (x.1 : Int), undef, undef,
      undef, undef, undef, undef, undef, undef], defers := [] }) ?assign ?body ?done ?stop
  case assign =>
    intro l x W K hK
    gi_wp2
    exact hK
  case body =>
    rintro l pre x W ⟨⟨hP, hK⟩, hBW⟩ hlen
    obtain ⟨cp, fp⟩ := hP.cell1
    obtain ⟨ck, fk⟩ := hK.cell1
    gi_wp2
    refine named (fun V => Blk V w2.heap.size #[.int .i64 (IntKind.i64.wrap ((rk (vals pre) 0 : Nat) : Int))] 3 ∧ Blk V (w2.heap.size + 1) #[.int .i64 ((pre.length : Int) + 1)] 3 ∧ KeepsFrom w4.heap.size W V ∧ Kb W3.heap.size W V ∧ Below w.heap.size w V) ⟨hP.other _ _ (by simp), hK.put1 _, keeps_set hK _, ⟨by simp [World.setCell], fun k hk => Below.heap_setCell _ _ _ _ (by simp; omega)⟩, hBW.setCell (by simp; omega) _⟩ ?_
    rintro V ⟨hP1, hK1, hk1, hk2, hB1⟩
    clear cp fp ck fk hP hK hBW
    obtain ⟨cp, fp⟩ := hP1.cell1
    obtain ⟨ck, fk⟩ := hK1.cell1
    have hx := x.2
    gi_region_with (first | (gi_at_call 72; refine (callsIn_wide.2 (choose_any x.1 ((pre.length : Int) + 1) _ (by omega))).mono ?_; rintro e w' ⟨rfl, rfl⟩) | (refine ⟨trivial, ?_⟩; gi_at_call 72; refine (callsIn_wide.2 (choose_any x.1 ((pre.length : Int) + 1) _ (by omega))).mono ?_; rintro e w' ⟨rfl, rfl⟩))
    all_goals
      refine And.intro ?_ (And.intro ?_ (And.intro (And.intro ?_ ?_) ?_))
      · exact hk1.trans ((keeps_set hP1 _).trans (keeps_drew _ _))
      · exact hk2.trans ⟨by simp [World.setCell], fun k hk => Below.heap_setCell _ _ _ _ (by simp; omega)⟩
      · have e := hP1.put1 (.int .i64 (IntKind.i64.wrap (IntKind.i64.wrap ((rk (vals pre) 0 : Nat) : Int) + (chI x.1 ((pre.length : Int) + 1) : Nat))))
        rw [rk_step pre x] at e
        rw [rk_step pre x]
        exact e.drew
      · have e := (hK1.other ⟨w2.heap.size, 0, none⟩ (.int .i64 (IntKind.i64.wrap (IntKind.i64.wrap ((rk (vals pre) 0 : Nat) : Int) + (chI x.1 ((pre.length : Int) + 1) : Nat)))) (by simp)).drew
        simpa using e
      · exact (hB1.setCell (by simp; omega) _).drew
  case done =>
    rintro D ys W hD hys ⟨⟨hP, hK⟩, hBW⟩ hKD
    have hf := rk_fit h61
    rw [hys, IntWalk.i64_in _ (by omega)] at hP
    obtain ⟨cp, fp⟩ := hP.cell1
    gi_wp2
    refine ⟨by simp, .inl ⟨_, _, rfl, run_takeDeferred hKD, ?_⟩⟩
    exact ⟨.tuple #[.int .i64 (rk (mem N) 0), .int .i64 0], by simp [results, Tryd.results47, go_sem], rfl, hBW.trans (belowK_b (w := w) (Nat.le_refl _) W D _ _ (by have := hb04.size; omega) hKD rfl rfl)⟩
  case stop =>
    rintro D c pre W _ _ h _
    exact h.elim
def rankV (N : Nat) : Value := match nextO N 61 with
  | some _ => .tuple #[.int .i64 0, .int .i64 2]
  | none => .tuple #[.int .i64 (rk (mem N) 0), .int .i64 0]
theorem rank_any (N : Nat) (w : World) (hg : Gl w) (hN : N < 2 ^ 256) :
    Calls Tryd.prog 47 #[setV N] w fun e w' => e = .returned (rankV N) ∧ Below w.heap.size w w' := by
  unfold rankV
  cases h : nextO N 61 with
  | some j => exact rank_limit N j w hg h
  | none => exact callsIn_wide.1 (rank_in N w hg hN h)
end Go.Proofs.YtjifajigigflkaaDoor
/- Package bits: isBetter. -/
namespace Go.Proofs.YtjifajigigflkaaDoor
set_option linter.unusedSimpArgs false
set_option linter.unusedVariables false
open Go Go.RowKit Go.Shelf

/-- a is smaller than b, or of its size and less. -/
def betB (N M : Nat) : Bool := if card N = card M then decide (N < M) else decide (card N < card M)
theorem card_le (N : Nat) : card N ≤ 256 := cnt_le N 256
set_option maxRecDepth 100000 in
theorem better_any (N M : Nat) (w : World) (hN : N < 2 ^ 256) (hM : M < 2 ^ 256) :
    Calls Tryd.prog 80 #[setV N, setV M] w fun e w' => e = .returned (.bool (betB N M)) ∧ Below w.heap.size w w' := by
  have c0 := card_le N
  have c1 := card_le M
  go_enter Tryd.func80, Tryd.ntmps80
  simp only [setV]
  go_wp2
  refine named (fun V => Blk V w.heap.size (setA N) 25 ∧ Blk V (w.heap.size + 1) (setA M) 25 ∧ Below w.heap.size w V) ⟨(Blk.newW _ _ _).alloc _, Blk.new1 _ _ _ _, below_new2 _ _ _⟩ ?_
  rintro W ⟨hA, hB, hW⟩
  have hlA := hA.lt
  have hlB := hB.lt
  obtain ⟨a0, a1, a2, a3, af⟩ := hA.set4
  obtain ⟨b0, b1, b2, b3, bf⟩ := hB.set4
  have HA := Lib.hid hA
  have HB := Lib.hid hB
  have HW := Lib.hid hW
  clear hA hB hW
  have hdr : W.drew.heap.size = W.heap.size := rfl
  refine wp_region_calm 6 21 [0, 1, 2, 3, 4, 5] [] (fun _ => .bool false) (by kernel_rfl) (by kernel_rfl) (by kernel_rfl) (by kernel_rfl) (fun _ h => by cases h) (by rfl) ?_
  (refine calm_step rfl (by rfl) (by rfl) rfl (Nat.le_of_ble_eq_true rfl) ?_; apply Exists.intro; refine ⟨fun w1 hC K hK => ?_, ?_⟩; (next => (obtain ⟨hoc, hof⟩ := old_cells hC; have HC := Lib.hid hC; clear hC; go_wp2; all_goals (first | exact Below.refl _ _ | assumption | exact (Below.refl _ _).drew))); try simp only [Act.put, slotL_succ, slotL_zero, List.setIfInBounds_toArray, List.set_cons_zero, List.set_cons_succ])
  (refine calm_step rfl (by rfl) (by rfl) rfl (Nat.le_of_ble_eq_true rfl) ?_; apply Exists.intro; refine ⟨fun w1 hC K hK => ?_, ?_⟩; (next => (obtain ⟨hoc, hof⟩ := old_cells hC; have HC := Lib.hid hC; clear hC; go_wp2_with (first | (go_at_call 37; refine (size_any _ _).mono ?_; rintro e w2 ⟨rfl, hb⟩)); all_goals (first | exact Below.refl _ _ | assumption | exact (Below.refl _ _).drew))); try simp only [Act.put, slotL_succ, slotL_zero, List.setIfInBounds_toArray, List.set_cons_zero, List.set_cons_succ])
  (refine calm_step rfl (by rfl) (by rfl) rfl (Nat.le_of_ble_eq_true rfl) ?_; apply Exists.intro; refine ⟨fun w1 hC K hK => ?_, ?_⟩; (next => (obtain ⟨hoc, hof⟩ := old_cells hC; have HC := Lib.hid hC; clear hC; go_wp2; all_goals (first | exact Below.refl _ _ | assumption | exact (Below.refl _ _).drew))); try simp only [Act.put, slotL_succ, slotL_zero, List.setIfInBounds_toArray, List.set_cons_zero, List.set_cons_succ])
  (refine calm_step rfl (by rfl) (by rfl) rfl (Nat.le_of_ble_eq_true rfl) ?_; apply Exists.intro; refine ⟨fun w1 hC K hK => ?_, ?_⟩; (next => (obtain ⟨hoc, hof⟩ := old_cells hC; have HC := Lib.hid hC; clear hC; go_wp2_with (first | (go_at_call 37; refine (size_any _ _).mono ?_; rintro e w2 ⟨rfl, hb⟩)); all_goals (first | exact Below.refl _ _ | assumption | exact (Below.refl _ _).drew))); try simp only [Act.put, slotL_succ, slotL_zero, List.setIfInBounds_toArray, List.set_cons_zero, List.set_cons_succ])
  (refine calm_step rfl (by rfl) (by rfl) rfl (Nat.le_of_ble_eq_true rfl) ?_; apply Exists.intro; refine ⟨fun w1 hC K hK => ?_, ?_⟩; (next => (go_wp2; all_goals (first | exact Below.refl _ _ | assumption | exact (Below.refl _ _).drew))); try simp only [Act.put, slotL_succ, slotL_zero, List.setIfInBounds_toArray, List.set_cons_zero, List.set_cons_succ])
  (refine calm_step rfl (by rfl) (by rfl) rfl (Nat.le_of_ble_eq_true rfl) ?_; apply Exists.intro; refine ⟨fun w1 hC K hK => ?_, ?_⟩; (next => (go_wp2; all_goals (first | exact Below.refl _ _ | assumption | exact (Below.refl _ _).drew))); try simp only [Act.put, slotL_succ, slotL_zero, List.setIfInBounds_toArray, List.set_cons_zero, List.set_cons_succ])
  refine wpC_nil ?_
  intro w1 hCw1 hNw1
  clear hNw1
  have hocw1 := (old_cells hCw1).1
  have hofw1 := (old_cells hCw1).2
  simp only [List.drop_succ_cons, List.drop_zero, List.drop_nil]
  have hbw : Below W.heap.size W w1 := (Below.refl _ W).drew.trans hCw1
  have HA1 := Lib.hid (HA.out.below hbw HA.out.lt)
  have HB1 := Lib.hid (HB.out.below hbw HB.out.lt)
  have HW1 := Lib.hid (HW.out.trans (hbw.mono HW.out.size))
  clear hocw1 hofw1 hCw1 a0 a1 a2 a3 af b0 b1 b2 b3 bf hdr hbw HA HB HW hlA hlB
  by_cases hc : card N = card M
  · have ht : ((card N : Int) != (card M : Int)) = false := by simp [hc]
    have HR : Hid (betB N M = decide (N < M)) := by unfold Hid betB; rw [if_pos hc]
    clear hc
    obtain ⟨a0, a1, a2, a3, af⟩ := HA1.out.set4
    obtain ⟨b0, b1, b2, b3, bf⟩ := HB1.out.set4
    go_wp2_with (first | (go_at_call 43; refine (compare_any _ _ _ hN hM).mono ?_; rintro e w2 ⟨rfl, hb⟩))
    go_ret
    refine ⟨?_, HW1.out.trans (hb.mono HW1.out.size)⟩
    rw [HR.out]
    unfold cmpS
    congr 2
    by_cases h1 : N < M
    · simp [h1]
    · by_cases h2 : M < N
      · simp [h1, h2]
      · simp [h1, h2]
  · have ht : ((card N : Int) != (card M : Int)) = true := by simp; omega
    have HR : Hid (betB N M = decide (card N < card M)) := by unfold Hid betB; rw [if_neg hc]
    clear hc
    go_wp2
    go_ret
    exact ⟨by rw [HR.out]; simp, HW1.out⟩
end Go.Proofs.YtjifajigigflkaaDoor
