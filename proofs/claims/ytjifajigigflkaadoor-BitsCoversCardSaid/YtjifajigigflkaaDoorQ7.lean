/- The holders of numbers; what Hit computes. -/
import Derived.Test.YtjifajigigflkaaDoorQ6
import Derived.Test.YtjifajigigflkaaDoorQ1
import Derived.OrdersIn
import Derived.TacticsIn
import Derived.RangeFuncCalls
/- What holders and Hit compute: plain mathematics; and arrays of 256 numbers in memory. -/
namespace Go.Proofs.YtjifajigigflkaaDoor
set_option linter.unusedSimpArgs false
set_option linter.unusedVariables false
open Go Go.RowKit Go.Shelf

/-- The cells of an array of 256 numbers. -/
def hasL (h : Nat → Nat) : List Value := (List.range 256).map fun n => Value.int .i64 (h n : Int)
def hasA (h : Nat → Nat) : Array Value := (hasL h).toArray
theorem hasA_get (h : Nat → Nat) (n : Nat) (hn : n < 256) : (hasA h)[n]? = some (.int .i64 (h n : Int)) := by
  unfold hasA hasL; simp [hn]
theorem hasA_size (h : Nat → Nat) : (hasA h).size = 256 := by unfold hasA hasL; simp
theorem hasA_set (h : Nat → Nat) (n v : Nat) (hn : n < 256) : (hasA h).setIfInBounds n (.int .i64 (v : Int)) = hasA (fun m => if m = n then v else h m) := by
  apply Array.ext_getElem?
  intro i
  rw [Array.getElem?_setIfInBounds]
  by_cases hi : i < 256
  · rw [hasA_get h i hi, hasA_get (fun m => if m = n then v else h m) i hi]
    by_cases e : n = i
    · subst e; simp [hasA_size, hi]
    · rw [if_neg e, if_neg (Ne.symm e)]
  · have h1 : ∀ f, (hasA f)[i]? = none := fun f => Array.getElem?_eq_none (by rw [hasA_size]; omega)
    rw [h1, h1]
    simp [hasA_size]; omega
theorem zero76 : Tryd.zeroCells76 = hasA (fun _ => 0) := by kernel_rfl

/-- Which sets of ls have n: a bit for each, of the first k. -/
def hold (ls : List Nat) : Nat → Nat → Nat
  | 0 => fun _ => 0
  | k + 1 => fun n => if (ls.getD k 0).testBit n then hold ls k n ||| 2 ^ k else hold ls k n
theorem hold_lt (ls : List Nat) (n : Nat) : ∀ k, hold ls k n < 2 ^ k
  | 0 => by simp [hold]
  | k + 1 => by
    have h1 : hold ls k n < 2 ^ (k + 1) := Nat.lt_of_lt_of_le (hold_lt ls n k) (Nat.pow_le_pow_right (by decide) (by omega))
    have h2 : 2 ^ k < 2 ^ (k + 1) := Nat.pow_lt_pow_right (by decide) (by omega)
    simp only [hold]
    split
    · exact Nat.or_lt_two_pow h1 h2
    · exact h1
/-- The same, where of set k only the numbers of l have been gone through. -/
def hstep (f : Nat → Nat) (k : Nat) (l : List Nat) : Nat → Nat := fun n => if n ∈ l then f n ||| 2 ^ k else f n
theorem hstep_nil (f : Nat → Nat) (k : Nat) : hstep f k [] = f := by funext n; simp [hstep]
theorem hstep_snoc (f : Nat → Nat) (k x : Nat) (l : List Nat) : (fun m => if m = x then hstep f k l x ||| 2 ^ k else hstep f k l m) = hstep f k (l ++ [x]) := by
  funext m
  unfold hstep
  by_cases h : m = x
  · subst h
    by_cases h' : m ∈ l
    · simp [h', Nat.or_assoc]
    · simp [h']
  · simp [h]
theorem hstep_mem {ls : List Nat} {k : Nat} (hN : ls.getD k 0 < 2 ^ 256) : hstep (hold ls k) k (mem (ls.getD k 0)) = hold ls (k + 1) := by
  funext n
  simp only [hstep, hold, mem_iff hN]
theorem hstep_lt {f : Nat → Nat} {k n : Nat} (l : List Nat) (h : f n < 2 ^ k) : hstep f k l n < 2 ^ (k + 1) := by
  have h1 : f n < 2 ^ (k + 1) := Nat.lt_of_lt_of_le h (Nat.pow_le_pow_right (by decide) (by omega))
  have h2 : 2 ^ k < 2 ^ (k + 1) := Nat.pow_lt_pow_right (by decide) (by omega)
  unfold hstep
  split
  · exact Nat.or_lt_two_pow h1 h2
  · exact h1
theorem bits_or_i64 (a b : Nat) (ha : a < 9223372036854775808) (hb : b < 9223372036854775808) : bits .or .i64 (a : Int) (b : Int) = ((a ||| b : Nat) : Int) := by
  have h1 : ∀ x : Nat, x < 9223372036854775808 → (BitVec.ofInt 64 (x : Int)).toNat = x := fun x hx => by
    rw [BitVec.ofInt_natCast, BitVec.toNat_ofNat]; exact Nat.mod_eq_of_lt (by omega)
  have h3 : a ||| b < 9223372036854775808 := Nat.or_lt_two_pow (n := 63) ha hb
  show IntKind.i64.wrap ((BitVec.ofInt 64 (a : Int) ||| BitVec.ofInt 64 (b : Int)).toNat : Int) = _
  rw [BitVec.toNat_or, h1 a ha, h1 b hb]
  exact IntWalk.i64_in _ (by omega)
theorem wrap_pow_i64 (k : Nat) (h : k < 63) : IntKind.i64.wrap (2 ^ k) = ((2 ^ k : Nat) : Int) := by
  have h1 : 2 ^ k < 9223372036854775808 := Nat.lt_of_lt_of_le (Nat.pow_lt_pow_right (by decide) h) (by decide)
  have h2 : ((2 ^ k : Nat) : Int) = (2 : Int) ^ k := by simp
  rw [← h2]
  generalize 2 ^ k = p at h1
  exact IntWalk.i64_in _ (by omega)

/-! ### The marks that loops over an iterator leave -/
def markOf (r : Nat) : Deferred := { target := .collected r, args := #[] }
def Marked (rs : List Nat) (B : Nat) (W : World) : Prop := rs.Pairwise (· ≠ ·) ∧ ∀ r ∈ rs, r < B ∧ W.heap[r]? = some (.deferred (some []))
theorem Marked.nil (B : Nat) (W : World) : Marked [] B W := ⟨List.Pairwise.nil, fun _ h => by cases h⟩
theorem Marked.keep {rs : List Nat} {B : Nat} {W W' : World} (h : Marked rs B W) (hk : ∀ r, r < B → W.heap[r]? = some (.deferred (some [])) → W'.heap[r]? = some (.deferred (some []))) : Marked rs B W' :=
  ⟨h.1, fun r hr => ⟨(h.2 r hr).1, hk r (h.2 r hr).1 (h.2 r hr).2⟩⟩
theorem Marked.mono {rs : List Nat} {B B' : Nat} {W : World} (h : Marked rs B W) (hB : B ≤ B') : Marked rs B' W := ⟨h.1, fun r hr => ⟨Nat.lt_of_lt_of_le (h.2 r hr).1 hB, (h.2 r hr).2⟩⟩
theorem Marked.cons {rs : List Nat} {B r : Nat} {W : World} (h : Marked rs B W) (hr : B ≤ r) (hW : W.heap[r]? = some (.deferred (some []))) : Marked (r :: rs) W.heap.size W := by
  refine ⟨List.Pairwise.cons (fun x hx => by have := (h.2 x hx).1; omega) h.1, fun x hx => ?_⟩
  rcases List.mem_cons.1 hx with rfl | hx
  · exact ⟨(Array.getElem?_eq_some_iff.1 hW).1, hW⟩
  · exact ⟨(Array.getElem?_eq_some_iff.1 (h.2 x hx).2).1, (h.2 x hx).2⟩
theorem marked_own {β : Type} (rs : List Nat) (B : Nat) : OwnFrom B (fun (_ : β) W => Marked rs B W) := by
  intro s W W' row hs hg hr
  refine hs.keep fun r hrB hW => ?_
  refine (hg.block r (Array.getElem?_eq_some_iff.1 hW).1 (fun e => ?_)).trans hW
  have := (hr r e.symm).1
  omega
/-- A function that returns under its marks. -/
theorem leaves_marks {F : Fence} {n : Nat} {P : Program} {fn : Func} {tmps : Array Value} {R : Ending → World → Prop} {u : FrameMode} (hu : u ≠ .run) :
    ∀ (rs : List Nat) (B : Nat) (W : World), Marked rs B W → (∀ W', But (fun k => k ∈ rs) W W' → LeavesIn F n P fn tmps R [] u W') → LeavesInM F n P fn tmps R (rs.map markOf) u W
  | [], B, W, _, h => h W (But.refl _ _)
  | r :: rs, B, W, hM, h => by
    have hr := hM.2 r (by simp)
    have hp := List.pairwise_cons.1 hM.1
    refine ⟨hu, .inl ⟨r, _, rfl, run_takeDeferred hr.2, ?_⟩⟩
    have hoth : ∀ k, k ≠ r → (W.putObj r (.deferred none)).heap[k]? = W.heap[k]? := fun k hk => World.putObj_heap_other hk
    refine leaves_marks hu rs B _ ⟨hp.2, fun x hx => ⟨(hM.2 x (by simp [hx])).1, ?_⟩⟩ fun W' hW' => h W' ?_
    · rw [hoth x (fun e => hp.1 x hx e.symm)]; exact (hM.2 x (by simp [hx])).2
    · have hg := grownBy_putObj' W r (.deferred none)
      have hb : But (fun k => k ∈ r :: rs) W (W.putObj r (.deferred none)) := ⟨hg.os, hg.tape, hg.output, hg.size, fun k _ hk => hoth k (fun e => hk (by simp [e]))⟩
      exact hb.trans hW' fun i _ hi => by simp [hi]
/-! ### Whole arrays of 256 numbers are read and written at once -/
theorem info76 : (Tryd.prog.info? 76).map (·.size) = some 256 := by kernel_rfl
theorem load76 {W : World} {b : Nat} {f : Nat → Nat} (h : Blk W b (hasA f) 76) : (Instr.loadAt 76 (.pointer (some ⟨b, 0, none⟩))).run Tryd.prog W = .ok (.agg (hasA f)) W := by
  have := run_loadVar_row (P := Tryd.prog) W b 76 76 (hasA f) (0, 0) _ h Tryd.underlying76 rfl (by rw [hasA_size]; exact info76)
  simp [Instr.loadAt, Instr.sureAddr, Sem.run_bind, Sem.run_pure, Result.andThen, this]
theorem store76 {W : World} {b : Nat} {f : Nat → Nat} (h : Blk W b (hasA f) 76) (g : Nat → Nat) : (Instr.storeAt 76 (.pointer (some ⟨b, 0, none⟩)) (.agg (hasA g))).run Tryd.prog W = .ok () (W.setRow b (hasA g)) := by
  have := run_storeCells_at Tryd.prog b 0 76 (hasA g).toList 0 (hasA f) W h (by simp [hasA_size]) (by
    intro v hv
    simp only [hasA, hasL, List.mem_map] at hv
    obtain ⟨n, _, rfl⟩ := hv
    rfl)
  have e : ((hasA f).toList.take (0 + 0) ++ (hasA g).toList ++ (hasA f).toList.drop (0 + 0 + (hasA g).toList.length)).toArray = hasA g := by
    rw [List.drop_of_length_le (by simp [hasA_size])]; simp
  rw [e] at this
  have hsz : (hasA g).size = 256 := hasA_size g
  simp [Instr.storeAt, Instr.sureAddr, Sem.run_bind, Sem.run_pure, Result.andThen, this, storeVar, Value.cells, hsz]
theorem wpIn_load76 {F : Fence} {n : Nat} {o : Oper} {A : Act} {W : World} {K : Act → World → Prop} {Q : Exit → Act → World → Prop} {b : Nat} {f : Nat → Nat} (x : Operand) (hop : o.op = .load 76 x) (hx : A.eval x = .pointer (some ⟨b, 0, none⟩))
    (h : Blk W b (hasA f) 76) (hK : K (A.put o.dst (.agg (hasA f))) W) : o.wpIn F n Tryd.prog A W K Q := by
  unfold Oper.wpIn
  refine ⟨fun f hf => by simp [Oper.about, hop] at hf, ?_⟩
  rw [Oper.semAt_plain F _ _ (by rw [hop]; intro c hc'; cases hc')]
  simp [execOp, hop, hx, load76 h, Result.andThen]
  exact hK
theorem wpIn_store76 {F : Fence} {n : Nat} {o : Oper} {A : Act} {W : World} {K : Act → World → Prop} {Q : Exit → Act → World → Prop} {b : Nat} {f g : Nat → Nat} (x y : Operand) (hop : o.op = .store 76 x y) (hx : A.eval x = .pointer (some ⟨b, 0, none⟩)) (hy : A.eval y = .agg (hasA g))
    (h : Blk W b (hasA f) 76) (hK : K (A.put o.dst undef) (W.setRow b (hasA g))) : o.wpIn F n Tryd.prog A W K Q := by
  unfold Oper.wpIn
  refine ⟨fun f hf => by simp [Oper.about, hop] at hf, ?_⟩
  rw [Oper.semAt_plain F _ _ (by rw [hop]; intro c hc'; cases hc')]
  simp [execOp, hop, hx, hy, store76 h, Result.andThen]
  exact hK
theorem wp_load76 {o : Oper} {A : Act} {W : World} {K : Act → World → Prop} {Q : Exit → Act → World → Prop} {b : Nat} {f : Nat → Nat} (x : Operand) (hop : o.op = .load 76 x) (hx : A.eval x = .pointer (some ⟨b, 0, none⟩))
    (h : Blk W b (hasA f) 76) (hK : K (A.put o.dst (.agg (hasA f))) W) : o.wp Tryd.prog A W K Q := by
  unfold Oper.wp
  simp [execOp, hop, hx, load76 h, Result.andThen]
  exact hK
theorem wp_store76 {o : Oper} {A : Act} {W : World} {K : Act → World → Prop} {Q : Exit → Act → World → Prop} {b : Nat} {f g : Nat → Nat} (x y : Operand) (hop : o.op = .store 76 x y) (hx : A.eval x = .pointer (some ⟨b, 0, none⟩)) (hy : A.eval y = .agg (hasA g))
    (h : Blk W b (hasA f) 76) (hK : K (A.put o.dst undef) (W.setRow b (hasA g))) : o.wp Tryd.prog A W K Q := by
  unfold Oper.wp
  simp [execOp, hop, hx, hy, store76 h, Result.andThen]
  exact hK
theorem blk_setRow {W : World} {b : Nat} {cs : Array Value} {t : TypeId} (h : Blk W b cs t) (cs' : Array Value) : Blk (W.setRow b cs') b cs' t := setRow_heap W b cs cs' t (0, 0) h
end Go.Proofs.YtjifajigigflkaaDoor
/- Package bits: holders. -/
namespace Go.Proofs.YtjifajigigflkaaDoor
set_option linter.unusedSimpArgs false
set_option linter.unusedVariables false
open Go Go.RowKit Go.Shelf
attribute [local go_sem] Oper.semAt_some

set_option maxRecDepth 100000 in
set_option maxHeartbeats 2000000 in
theorem holders_in (a : Option Addr) (cap : Nat) (ls : List Nat) (w : World) (hg : Gl w) (hls : ∀ N ∈ ls, N < 2 ^ 256) (hl : ls.length ≤ 16) (hs : SetCells w a ls) (ho : ∀ ad, a = some ad → ad.block < w.heap.size) :
    CallsIn Fence.wide 8 Tryd.prog 77 #[.slice a ls.length cap] w fun e w' => e = .returned (.agg (hasA (hold ls ls.length))) ∧ Below w.heap.size w w' := by
  have HS := Lib.hid hs
  have HO := Lib.hid ho
  have HL := Lib.hid hls
  have HG := Lib.hid hg
  clear hs ho hls hg
  refine callsIn_of_wp_marks Tryd.func77 rfl trivial ?_ rfl
  simp only [Tryd.ntmps77, List.size_toArray, List.length_cons, List.length_nil, Nat.reduceAdd, Nat.reduceSub, Array.replicate_succ, Array.replicate_zero, List.push_toArray, List.append_toArray, List.nil_append, List.cons_append]
  gi_wp2_with fail
  refine named (fun V => Blk V w.heap.size (hasA fun _ => 0) 76 ∧ Blk V (w.heap.size + 1) (hasA fun _ => 0) 76 ∧ Below w.heap.size w V) ⟨by rw [zero76]; exact (Blk.new _ _ _).alloc _, by rw [zero76]; exact Blk.new1 _ _ _ _, below_new2 _ _ _⟩ ?_
  rintro V ⟨h2, h3, hbV⟩
  refine wpIn_loop (fun A W => ∃ (k : Nat) (rs : List Nat) (u4 u5 u6 u10 u11 u12 u13 u14 u15 u16 u17 u18 u19 u20 u21 u22 u23 u24 u25 : Value), A = { tmps := #[Value.slice a ls.length cap, undef, Value.pointer (some { block := w.heap.size, off := 0 }), Value.pointer (some { block := w.heap.size + 1, off := 0 }), u4, u5, u6, Value.slice a ls.length cap, Value.int IntKind.i64 ↑ls.length, Value.int IntKind.i64 ↑k, u10, u11, u12, u13, u14, u15, u16, u17, u18, u19, u20, u21, u22, u23, u24, u25], defers := rs.map markOf } ∧ k ≤ ls.length ∧ (∀ r ∈ rs, w.heap.size ≤ r) ∧ Marked rs W.heap.size W ∧ Blk W w.heap.size (hasA fun _ => 0) 76 ∧ Blk W (w.heap.size + 1) (hasA (hold ls k)) 76 ∧ Below w.heap.size w W)
    (fun A _ => ls.length - (intOf (A.tmps.getD 9 undef)).toNat) ?_ ?_
  · exact ⟨0, [], _, _, _, _, _, _, _, _, _, _, _, _, _, _, _, _, _, _, _, rfl, by omega, (fun _ h => by cases h), Marked.nil _ _, h2, h3, hbV⟩
  · clear h2 h3 hbV
    rintro A W ⟨k, rs, u4, u5, u6, u10, u11, u12, u13, u14, u15, u16, u17, u18, u19, u20, u21, u22, u23, u24, u25, rfl, hk, hlow, hM, h2, h3, hb⟩
    have HLOW := Lib.hid hlow
    clear hlow
    have HM := Lib.hid hM
    have H2 := Lib.hid h2
    have H3 := Lib.hid h3
    have HB := Lib.hid hb
    clear hM h2 h3 hb
    by_cases hlt : k < ls.length
    · obtain ⟨b, o, rfl, hc⟩ := HS.out.at hlt
      have hbo := HO.out _ rfl
      simp at hbo
      have hc' : ∀ j, j < 4 → W.cell? ⟨b, o + k * 4 + j, none⟩ = some (.int .u64 (word ls[k] j)) := fun j hj => by
        rw [World.cell?_of_block (w := w)]
        · exact hc j hj
        · exact HB.out.block b hbo
      obtain ⟨x, hx⟩ : ∃ x, x = ls[k] := ⟨_, rfl⟩
      rw [← hx] at hc'
      have HX : Hid (ls.getD k 0 = x) := by rw [Hid, hx]; simp [hlt]
      have HXL : Hid (x < 2 ^ 256) := by rw [Hid, hx]; exact HL.out _ (List.getElem_mem hlt)
      have c0 : W.cell? ⟨b, o + k * 4, none⟩ = _ := hc' 0 (by omega)
      have c1 := hc' 1 (by omega)
      have c2 := hc' 2 (by omega)
      have c3 := hc' 3 (by omega)
      clear hc hc' hx
      gi_wp2_with ((refine ⟨trivial, ?_⟩; gi_at_call 24; refine CallsIn.named (fun V => Blk V W.heap.size #[.int .i64 (k : Int)] 3 ∧ Below W.heap.size W V) ⟨(Blk.new _ _ _).alloc _, below_new2 _ _ _⟩ ?_; rintro W3 ⟨hk3, hb3⟩; refine (callsIn_wide.2 (All_any x W3)).mono ?_; rintro e w4 ⟨rfl, hB4, hb4⟩))
      have h6 := HG.out.size
      have hWs := HB.out.size
      have hl2 := H2.out.lt
      have hl3 := H3.out.lt
      have hk3l := hk3.lt
      have hbl := hB4.lt
      have hb04 : Below W.heap.size W w4 := hb3.trans (hb4.mono hb3.size)
      have hb4s := hb4.size
      have hg4 : Gl w4 := ((HG.out.below HB.out).below hb04)
      have h2x := H2.out.below hb04 hl2
      have h3x := H3.out.below hb04 hl3
      have hkx := hk3.below hb4 hk3l
      have hMx : Marked rs W.heap.size w4 := HM.out.keep fun r hr hW => (hb04.block r hr).trans hW
      have hbx : Below w.heap.size w w4 := HB.out.trans (hb04.mono hWs)
      have HXM : Hid (∀ y ∈ mem x, y < 256) := fun y hy => (by have := (memF_iff.1 hy).2.1; omega)
      clear c0 c1 c2 c3 hk3 hb3 hb4
      refine wpIn_rangeFunc_ownG (F := Fence.wide) (n := 8) rfl (by decide) (gf := 69) (lb := #[.pointer (some ⟨W3.heap.size, 0, none⟩)]) rfl trivial (enters_of Tryd.func69 (by kernel_rfl) rfl)
        (All1_stops (fun y => y < 256) x W3.heap.size (8 - 1) HXM.out _ hg4 hB4 (by decide)) Kb.trans (Kb.turn hg4.size hB4.lt) (Below.refl _ _) (fun _ => rfl)
        (fun (pre : List (MemOf fun y => y < 256)) V => ((Blk V (w.heap.size + 1) (hasA (hstep (hold ls k) k (vals pre))) 76 ∧ Blk V w.heap.size (hasA fun _ => 0) 76 ∧ Blk V W.heap.size #[.int .i64 (k : Int)] 3) ∧ Marked rs W.heap.size V) ∧ Below w.heap.size w V)
        (fun _ _ _ => False)
        (OwnFrom.and (OwnFrom.and (OwnFrom.and (blk_own _ _ _ _) (OwnFrom.and (blk_own _ _ (fun _ => hasA fun _ => 0) _) (blk_own _ _ (fun _ => #[.int .i64 (k : Int)]) _))) (fun s A B row h hg hr => marked_own rs _ s A B row h hg fun r e => ⟨Nat.le_trans (by omega) (hr r e).1, (hr r e).2⟩)) (ownFrom_below (Nat.le_refl _) (by omega)))
        (fun _ _ _ _ _ hs _ _ => hs)
        ⟨⟨⟨by rw [show vals ([] : List (MemOf fun y => y < 256)) = [] from rfl, hstep_nil]; exact h3x, h2x, hkx⟩, hMx⟩, hbx⟩
        (fun y : MemOf (fun y => y < 256) => { tmps := #[Value.slice (some { block := b, off := o }) ls.length cap, undef, Value.pointer (some { block := w.heap.size, off := 0 }), Value.pointer (some { block := w.heap.size + 1, off := 0 }),
      Value.pointer (some { block := W.heap.size, off := 0 }), Value.pointer (some { block := W.heap.size + 1, off := 0 }), .int .i64 (y.1 : Int), Value.slice (some { block := b, off := o }) ls.length cap, Value.int IntKind.i64 ↑ls.length, Value.int IntKind.i64 ↑k, Value.bool true, Value.int IntKind.i64 ↑k, Value.pointer (some { block := b, off := o + k * 4 }),
      Value.agg #[Value.int IntKind.u64 ↑(word x 0), Value.int IntKind.u64 ↑(word x 1), Value.int IntKind.u64 ↑(word x 2), Value.int IntKind.u64 ↑(word x 3)], Value.agg #[Value.int IntKind.u64 ↑(word x 0), Value.int IntKind.u64 ↑(word x 1), Value.int IntKind.u64 ↑(word x 2), Value.int IntKind.u64 ↑(word x 3)],
      Value.func (Fn.func 69) #[] #[Value.pointer (some { block := W3.heap.size, off := 0 })], .int .i64 (y.1 : Int), u17, u18, u19, u20, u21, u22, u23, u24, u25], defers := [] }) ?assign ?body ?done ?stop
      case assign =>
        intro l y V K hK
        gi_wp2
        exact hK
      case body =>
        rintro l pre y V ⟨⟨⟨hv3, hv2, hvk⟩, hvM⟩, hvB⟩ hlen
        have hy := y.2
        obtain ⟨ck, fk⟩ := hvk.cell1
        have hlt2 := hold_lt ls y.1 k
        have hlt3 := hstep_lt (vals pre) hlt2
        have hp1 : 2 ^ (k + 1) ≤ 2 ^ 17 := Nat.pow_le_pow_right (by decide) (by omega)
        have hp0 : 2 ^ k ≤ 2 ^ 17 := Nat.pow_le_pow_right (by decide) (by omega)
        have cn : V.cell? ⟨w.heap.size + 1, y.1, none⟩ = some (.int .i64 (hstep (hold ls k) k (vals pre) y.1 : Int)) := by rw [hv3.cell]; exact hasA_get _ _ hy
        have fn := hv3.frozen y.1
        have hor : bits .or .i64 ((hstep (hold ls k) k (vals pre) y.1 : Nat) : Int) ((2 : Int) ^ k) = ((hstep (hold ls k) k (vals pre) y.1 ||| 2 ^ k : Nat) : Int) := by
          have := bits_or_i64 (hstep (hold ls k) k (vals pre) y.1) (2 ^ k) (by omega) (by omega)
          rwa [show ((2 ^ k : Nat) : Int) = (2 : Int) ^ k by simp] at this
        have HOR := Lib.hid hor
        clear hor
        have hsh := wrap_pow_i64 k (by omega)
        gi_wp2_with fail
        gi_region
        all_goals
          rw [HOR.out]
          refine And.intro ?_ (And.intro ?_ (And.intro (And.intro (And.intro ?_ (And.intro ?_ ?_)) ?_) ?_))
          · exact (keeps_set hv3 _).trans (keeps_drew _ _)
          · exact ⟨by simp [World.setCell], fun j hj => Below.heap_setCell _ _ _ _ (by simp; omega)⟩
          · have e := (hv3.set y.1 (.int .i64 ((hstep (hold ls k) k (vals pre) y.1 ||| 2 ^ k : Nat) : Int))).drew
            rw [hasA_set _ _ _ hy, hstep_snoc, ← vals_snoc] at e
            exact e
          · exact (hv2.other _ _ (by simp)).drew
          · exact (hvk.other _ _ (by simp; omega)).drew
          · refine hvM.keep fun r hr hW => ?_
            show (V.setCell _ _).heap[r]? = _
            rw [Below.heap_setCell]
            · exact hW
            · intro e
              have e' : r = w.heap.size + 1 := e
              subst e'
              have h' : V.heap[w.heap.size + 1]? = some (.cells _ _ (0, 0)) := hv3
              rw [h'] at hW; cases hW
          · exact (hvB.setCell (by simp) _).drew
      case done =>
        rintro D ys V hD hys ⟨⟨⟨hv3, hv2, hvk⟩, hvM⟩, hvB⟩ hKD
        rw [hys, show hstep (hold ls k) k (mem x) = hold ls (k + 1) by rw [← HX.out]; exact hstep_mem (by rw [HX.out]; exact HXL.out)] at hv3
        gi_wp2
        refine ⟨⟨k + 1, D :: rs, _, _, _, _, _, _, _, _, _, _, _, _, _, _, _, _, _, _, _, rfl, by omega, (fun r hr => by rcases List.mem_cons.1 hr with rfl | hr <;> first | omega | exact HLOW.out r hr), hvM.cons (by omega) hKD, hv2, hv3, hvB⟩, by simp [intOf]; omega⟩
      case stop =>
        rintro D c pre V _ _ h _
        exact h.elim
    · obtain rfl : k = ls.length := by omega
      gi_wp2_with (first | (refine wpIn_load76 _ rfl rfl H3.out ?_) | (refine wpIn_store76 _ _ rfl rfl rfl H2.out ?_))
      have hk2 := blk_setRow H2.out (hasA (hold ls ls.length))
      have hM2 : Marked rs W.heap.size (W.setRow w.heap.size (hasA (hold ls ls.length))) := HM.out.keep fun r hr hW => by
        rw [setRow_other]
        · exact hW
        · intro e
          subst e
          have h' : W.heap[w.heap.size]? = some (.cells _ _ (0, 0)) := H2.out
          rw [h'] at hW; cases hW
      refine leaves_marks (by simp) rs _ _ hM2 fun W' hW' => ?_
      have hb' : ¬ w.heap.size ∈ rs := fun hm => by
        have := (hM2.2 _ hm).2
        have h' : (W.setRow w.heap.size (hasA (hold ls ls.length))).heap[w.heap.size]? = some (.cells _ _ (0, 0)) := hk2
        rw [h'] at this; cases this
      have hk3 := hW'.blk hk2 hb'
      refine ⟨.agg (hasA (hold ls ls.length)), results_cell_row rfl _ W' w.heap.size 76 _ (0, 0) _ (by rfl) hk3 Tryd.underlying76 rfl (by rw [hasA_size]; exact info76), rfl, ?_⟩
      have hsr : Below w.heap.size w (W.setRow w.heap.size (hasA (hold ls ls.length))) := HB.out.trans ⟨rfl, rfl, rfl, by simp, fun j hj => setRow_other _ _ _ _ (by omega)⟩
      refine hsr.trans (hW'.below (by simp; exact HB.out.size) fun j hj hm => by have := HLOW.out j hm; omega)
theorem holders_any (a : Option Addr) (cap : Nat) (ls : List Nat) (w : World) (hg : Gl w) (hls : ∀ N ∈ ls, N < 2 ^ 256) (hl : ls.length ≤ 16) (hs : SetCells w a ls) (ho : ∀ ad, a = some ad → ad.block < w.heap.size) :
    Calls Tryd.prog 77 #[.slice a ls.length cap] w fun e w' => e = .returned (.agg (hasA (hold ls ls.length))) ∧ Below w.heap.size w w' :=
  callsIn_wide.1 (holders_in a cap ls w hg hls hl hs ho)
end Go.Proofs.YtjifajigigflkaaDoor
/- The law of regions that draw their order, inside a round of a loop over an iterator. -/
namespace Go.Proofs.YtjifajigigflkaaDoor
set_option linter.unusedSimpArgs false
set_option linter.unusedVariables false
open Go Go.RowKit

/-- A fence that lets all through. -/
structure Open (F : Fence) : Prop where
  fn : ∀ f, F.fn f
  depth : F.depth = none
  calls : ∀ (n : Nat) (P : Program) (f : FuncId) (args : Array Value) (w : World) (R : Ending → World → Prop), Calls P f args w R → CallsIn F n P f args w R
  rows : ∀ (n : Nat) (P : Program) (row : String) (args : Array Value) (w : World) (R : Value → World → Prop), Rows P row args w R → RowsIn F n P row args w R
theorem rowsIn_wide' {n : Nat} {P : Program} {row : String} {args : Array Value} {w : World} {R : Value → World → Prop} (h : Rows P row args w R) : RowsIn Fence.wide n P row args w R :=
  fun c cs _ => let ⟨v, w', r, s⟩ := h c cs; ⟨v, w', r, stepsIn_wide.2 s⟩
theorem open_wide : Open Fence.wide := ⟨fun _ => trivial, rfl, fun _ _ _ _ _ _ h => callsIn_wide.2 h, fun _ _ _ _ _ _ h => rowsIn_wide' h⟩
theorem open_round (l : Nat) : Open (Fence.wide.inRound l) := ⟨fun _ => trivial, rfl, fun _ _ _ _ _ _ h => callsIn_wide.2 h, fun _ _ _ _ _ _ h => rowsIn_wide' h⟩

section
variable {F : Fence} {m' : Nat} {P : Program} {ops : Array Oper} {md : Region.Mode}
theorem uponIn_of_calm (hF : Open F) {o : Oper} {a : Act} {K : Act → World → Prop} {Q' : Exit → Act → World → Prop} {R : World → World → Prop} {w : World} {v : Value} {r : Result Next} (h : calmUpon P R w v r) (hK : ∀ w', R w w' → K (a.put o.dst v) w') : o.uponIn F m' P a K Q' r := by
  cases r with
  | ok n w' =>
    cases n <;> simp only [calmUpon] at h <;> simp only [Oper.uponIn]
    case value u => obtain ⟨hb, rfl⟩ := h; exact hK _ hb
    case skip => obtain ⟨hb, rfl⟩ := h; exact hK _ hb
    case enter f args => exact ⟨fun hd => (by rw [hF.depth] at hd; cases hd), hF.calls _ _ _ _ _ _ (h.mono fun e w'' ⟨he, hb⟩ => by subst he; exact hK _ hb)⟩
    case row row args => exact ⟨fun hd => (by rw [hF.depth] at hd; cases hd), hF.rows _ _ _ _ _ _ (h.mono fun u w'' ⟨he, hb⟩ => by subst he; exact hK _ hb)⟩
  | halt x w' => simp only [calmUpon] at h
def noDefer (ops : Array Oper) : Bool := ops.toList.all fun o => match o.op with | .defer _ => false | _ => true
theorem noDefer_spec (h : noDefer ops = true) {i : Nat} {o : Oper} (ho : ops[i]? = some o) : ∀ c, o.op ≠ .defer c := by
  intro c hc
  have := List.all_eq_true.1 h o (Array.mem_toList_iff.2 (Array.mem_of_getElem? ho))
  simp [hc] at this

theorem wpAnyIn_of_anyC (hF : Open F) (hnd : noDefer ops = true) {Z : TypeId → Value} {C : Cl} {B n g m : Nat} {L : Array Bool → Act → Prop} {Q' : Exit → Act → World → Prop} (hs : newSlots ops n m = true)
    (hZ : ∀ (i : Nat) (o : Oper) (e : TypeId), ops[i]? = some o → o.op = .alloc e → ∀ w, (zeroValue e).run P w = .ok (Z e) w)
    (hstep : ∀ w w', C.C w → C.R w w' → C.C w') (hrb : ∀ w w', C.R w w' → Below w.heap.size w w') (hcb : ∀ w, C.C w → B ≤ w.heap.size)
    (halloc : ∀ (i : Nat) (o : Oper) (e : TypeId), ops[i]? = some o → o.op = .alloc e → ∀ w, C.C w → C.C (w.alloc (.cells (Z e).cells e)))
    (hL : ∀ listed a w, L listed a → a.tmps.size = m → C.C w → newOk ops Z B n listed a w → wpAnyIn F m' P md ops Q' g listed a w) :
    ∀ (f : Nat) (listed : Array Bool) (a : Act) (w : World), anyC P md ops C n L f listed a → a.tmps.size = m → C.C w → newOk ops Z B n listed a w → wpAnyIn F m' P md ops Q' (f + g) listed a w
  | 0, listed, a, w, h, hm, hC, hN => by rw [Nat.zero_add]; exact hL _ _ _ h hm hC hN
  | f + 1, listed, a, w, h, hm, hC, hN => by
    rw [show f + 1 + g = (f + g) + 1 by omega]
    refine ⟨fun h0 => absurd h0 h.1, fun i hi => ?_⟩
    obtain ⟨hin, hc⟩ := h.2 i hi
    obtain ⟨_, o, ho, _⟩ := mem_ready.1 hi
    unfold cOp at hc
    simp only [ho] at hc
    unfold wpOpIn
    simp only [ho]
    by_cases hw : Region.wanted o (yielded ops a.tmps) = true
    · rw [if_pos hw] at hc
      rw [if_pos hw]
      have hsem : o.semAt F.round a.eval = execOp a.eval o := Oper.semAt_eq _ _ _ (noDefer_spec hnd ho)
      unfold Oper.wpIn
      refine ⟨fun g' _ => hF.fn g', ?_⟩
      rw [hsem]
      by_cases ha : isAlloc o = true
      · rw [if_pos ha] at hc
        obtain ⟨e, he⟩ : ∃ e, o.op = .alloc e := by
          unfold isAlloc at ha
          split at ha
          · rename_i e he; exact ⟨e, he⟩
          · cases ha
        have hr : (execOp a.eval o).run P w = .ok (.value (.pointer (some ⟨w.heap.size, 0, none⟩))) (w.alloc (.cells (Z e).cells e)) := by
          have hz := hZ i o e ho he w
          simp [execOp, he, hz, go_sem]
        rw [hr]
        simp only [Oper.uponIn]
        exact wpAnyIn_of_anyC hF hnd hs hZ hstep hrb hcb halloc hL f _ _ _ (hc _) (by rw [tmps_put_size]; exact hm) (halloc i o e ho he w hC) (newOk_alloc (by rw [hm]; exact hs) hin ho he (hcb w hC) hN)
      · rw [if_neg ha] at hc
        obtain ⟨v, hv, hK⟩ := hc
        exact uponIn_of_calm hF (hv w hC) fun w' hb => wpAnyIn_of_anyC hF hnd hs hZ hstep hrb hcb halloc hL f _ _ _ hK (by rw [tmps_put_size]; exact hm) (hstep _ _ hC hb) (newOk_step hs hin ho (by simpa using ha) (hrb _ _ hb) hN)
    · rw [if_neg hw] at hc
      rw [if_neg hw]
      refine ⟨fun g' _ => hF.fn g', ?_⟩
      have hna : isAlloc o = false := by
        cases ha : isAlloc o with
        | false => rfl
        | true =>
          unfold isAlloc at ha
          split at ha
          · rename_i e he
            have := (newSlots_spec hs hin ho he).1
            rw [Region.wanted, this] at hw
            exact absurd rfl hw
          · cases ha
      exact wpAnyIn_of_anyC hF hnd hs hZ hstep hrb hcb halloc hL f _ _ _ hc (by rw [tmps_put_size]; exact hm) hC (newOk_step hs hin ho hna (Below.refl _ _) hN)

theorem wpAnyIn_of_seq (hF : Open F) {Q' : Exit → Act → World → Prop} : ∀ (l : List Oper) (k : Nat) (listed : Array Bool) (a : Act) (w : World), (∀ j, l[j]? = ops[k + j]?) →
    Region.seqB md ops l.length k listed = true → wpListIn F m' P ops Q' l a w → wpAnyIn F m' P md ops Q' l.length listed a w
  | [], _, _, _, _, _, hB, h => ⟨by simpa [Region.seqB] using hB, h⟩
  | o :: l, k, listed, a, w, hl, hB, h => by
    have h0 : ops[k]? = some o := by simpa using (hl 0).symm
    simp only [List.length_cons, Region.seqB, Bool.and_eq_true, decide_eq_true_eq] at hB
    refine ⟨fun h1 => (by rw [hB.1] at h1; cases h1), fun i hi => ?_⟩
    rw [hB.1] at hi
    have hik : i = k := by simpa using hi
    subst hik
    have hw : wpOpIn F m' P ops Q' i (wpListIn F m' P ops Q' l) a w := by unfold wpOpIn; simp only [h0]; exact h
    exact wpOpIn_mono (fun a' w' h' => wpAnyIn_of_seq hF l (i + 1) _ a' w' (fun j => by have := hl (j + 1); simpa [Nat.add_assoc, Nat.add_comm 1 j] using this) hB.2 h') hw

theorem wpIn_region_cl (hF : Open F) {C : Cl} {id : Nat} {Q : Exit → Act → World → Prop} {a : Act} {w : World} {l : List Oper} (n m : Nat) (L : List Nat) (T : List TypeId) (Z : TypeId → Value) (hm : P.follows .mixedOrders = true) (hB : calmB l.toArray n m = true) (hnd : noDefer l.toArray = true)
    (hL : headOrder l.toArray n = L) (hT : allocTypes l.toArray = T) (hZ : ∀ e, e ∈ T → ∀ w, (zeroValue e).run P w = .ok (Z e) w) (ham : a.tmps.size = m)
    (hstep : ∀ w w', C.C w → C.R w w' → C.C w') (hrb : ∀ w w', C.R w w' → Below w.heap.size w w') (hcb : ∀ w', C.C w' → w.heap.size ≤ w'.heap.size)
    (halloc : ∀ e, e ∈ T → ∀ w, C.C w → C.C (w.alloc (.cells (Z e).cells e))) (h0 : C.C w.drew)
    (h : wpC P l.toArray C (fun a' => ∀ w', C.C w' → newOk l.toArray Z w.heap.size n (Array.replicate l.toArray.size true) a' w' → wpListIn F m' P l.toArray Q (l.drop n) a' w') L a) :
    (Code.region id l.toArray true).wpIn F m' P Q a w := by
  subst ham hL hT
  have memT : ∀ (i : Nat) (o : Oper) (e : TypeId), l.toArray[i]? = some o → o.op = .alloc e → e ∈ allocTypes l.toArray := fun i o e ho he =>
    List.mem_filterMap.2 ⟨o, Array.mem_toList_iff.2 (Array.mem_of_getElem? ho), by simp [he]⟩
  simp only [calmB, Bool.and_eq_true, decide_eq_true_eq] at hB
  obtain ⟨⟨⟨⟨⟨hsel, hn⟩, hT⟩, hs⟩, hlen⟩, hord⟩ := hB
  have inv0 : HeadInv .any l.toArray n (Array.replicate l.toArray.size false) :=
    ⟨by simp, fun j oj _ hl => (by rw [getD_replicate_false] at hl; cases hl), fun t _ ht => getD_in (by simpa using ht) (getD_replicate_false _ _)⟩
  have H := anyC_order (C := C) (g := l.toArray.size - n) hsel hT (headOrder l.toArray n) _ a inv0 hord h
  refine wpIn_region_any hm ?_
  have hdl : (l.drop n).length = l.toArray.size - n := by simp
  have := wpAnyIn_of_anyC hF hnd (m' := m') (Q' := Q) (g := l.toArray.size - n) (B := w.heap.size) (m := a.tmps.size) hs (fun i o e ho he => hZ e (memT i o e ho he)) hstep hrb hcb (fun i o e ho he => halloc e (memT i o e ho he)) (fun listed a' w' hL hm' hC hN => by
    have hall : ∀ i, i < n → listed.getD i false = true := fun i hi => List.all_eq_true.1 hL.1.2 i (List.mem_range.2 hi)
    have := wpAnyIn_of_seq hF (md := .any) (m' := m') (Q' := Q) (l.drop n) n listed a' w' (fun j => by simp [List.getElem?_drop]) (by rw [hdl]; exact hL.1.1) (hL.2 w' hC ⟨fun i o e d hi _ ho he hg hd => hN.1 i o e d hi (hall i hi) ho he hg hd, fun i k o p e e' d d' b hi hk hne _ _ ho hp he he' hg hg' hd hd' hb => hN.2 i k o p e e' d d' b hi hk hne (hall i hi) (hall k hk) ho hp he he' hg hg' hd hd' hb⟩)
    rw [hdl] at this
    exact this) _ _ a w.drew H rfl h0 ⟨fun i o e d hi hl => (by rw [getD_replicate_false] at hl; cases hl), fun i k o p e e' d d' b _ _ _ hl => (by rw [getD_replicate_false] at hl; cases hl)⟩
  rw [hlen] at this
  have hnn : n + (l.toArray.size - n) = l.toArray.size := by omega
  rw [hnn] at this
  exact this
/-- The head calm, then the tail. -/
theorem wpIn_region_calm (hF : Open F) {id : Nat} {Q : Exit → Act → World → Prop} {a : Act} {w : World} {l : List Oper} (n m : Nat) (L : List Nat) (T : List TypeId) (Z : TypeId → Value) (hm : P.follows .mixedOrders = true) (hB : calmB l.toArray n m = true) (hnd : noDefer l.toArray = true)
    (hL : headOrder l.toArray n = L) (hT : allocTypes l.toArray = T) (hZ : ∀ e, e ∈ T → ∀ w, (zeroValue e).run P w = .ok (Z e) w) (ham : a.tmps.size = m)
    (h : wpC P l.toArray (clOld w.drew) (fun a' => ∀ w', Old w.drew w' → newOk l.toArray Z w.heap.size n (Array.replicate l.toArray.size true) a' w' → wpListIn F m' P l.toArray Q (l.drop n) a' w') L a) :
    (Code.region id l.toArray true).wpIn F m' P Q a w :=
  wpIn_region_cl hF (C := clOld w.drew) n m L T Z hm hB hnd hL hT hZ ham (fun _ _ h hb => Old.step h hb) (fun _ _ h => h) (fun _ h => h.size) (fun _ _ w' h => Old.step h ((Below.refl _ w').alloc (Nat.le_refl _) _)) (Below.refl _ _) h
end
end Go.Proofs.YtjifajigigflkaaDoor
/- Regions in which the operations that only read come first: each yields the same value in every world of a class; what writes keeps to the class. -/
namespace Go.Proofs.YtjifajigigflkaaDoor
set_option linter.unusedSimpArgs false
set_option linter.unusedVariables false
open Go Go.RowKit

section
variable {F : Fence} {m' : Nat} {P : Program} {ops : Array Oper} {md : Region.Mode} {C : World → Prop} {Q : Exit → Act → World → Prop}
/-- As wpAnyIn, and each world on the way is of the class. -/
def wpAnyC (F : Fence) (n : Nat) (P : Program) (md : Region.Mode) (ops : Array Oper) (C : World → Prop) (Q : Exit → Act → World → Prop) : Nat → Array Bool → Act → World → Prop
  | 0, listed, a, w => C w ∧ Region.ready md ops listed = [] ∧ Q .normal a w
  | fuel + 1, listed, a, w => C w ∧ (Region.ready md ops listed = [] → Q .normal a w) ∧
    ∀ i ∈ Region.ready md ops listed, wpOpIn F n P ops Q i (wpAnyC F n P md ops C Q fuel (listed.setIfInBounds i true)) a w
theorem wpAnyC_cls : ∀ {f : Nat} {listed : Array Bool} {a : Act} {w : World}, wpAnyC F m' P md ops C Q f listed a w → C w
  | 0, _, _, _, h => h.1
  | _ + 1, _, _, _, h => h.1
theorem wpAnyC_in : ∀ {f : Nat} {listed : Array Bool} {a : Act} {w : World}, wpAnyC F m' P md ops C Q f listed a w → wpAnyIn F m' P md ops Q f listed a w
  | 0, _, _, _, h => h.2
  | _ + 1, _, _, _, h => ⟨h.2.1, fun i hi => wpOpIn_mono (fun _ _ h' => wpAnyC_in h') (h.2.2 i hi)⟩
/-- In every world of the class it yields v, and leaves the world alone. -/
def yieldsC (P : Program) (ops : Array Oper) (C : World → Prop) (o : Oper) (v : Value) (a : Act) : Prop :=
  (Region.wanted o (yielded ops a.tmps) = true ∧ ∀ w, C w → (execOp a.eval o).run P w = .ok (.value v) w) ∨ (Region.wanted o (yielded ops a.tmps) = false ∧ v = undef)
theorem yieldsC_same {o : Oper} {v : Value} {a a' : Act} (hy : yieldsC P ops C o v a) (he : execOp a'.eval o = execOp a.eval o)
    (hw : Region.wanted o (yielded ops a'.tmps) = Region.wanted o (yielded ops a.tmps)) : yieldsC P ops C o v a' := by
  unfold yieldsC at *
  rw [he, hw]
  exact hy
theorem yieldsC_op (hF : Open F) (hnd : noDefer ops = true) {i : Nat} {o : Oper} {v : Value} {a : Act} (hi : ops[i]? = some o) (hy : yieldsC P ops C o v a) {K : Act → World → Prop} {w : World} (hC : C w) (h : K (a.put o.dst v) w) : wpOpIn F m' P ops Q i K a w := by
  unfold wpOpIn
  simp only [hi]
  rcases hy with ⟨hw, hv⟩ | ⟨hw, rfl⟩
  · rw [if_pos hw]
    unfold Oper.wpIn
    refine ⟨fun g _ => hF.fn g, ?_⟩
    rw [Oper.semAt_eq _ _ _ (noDefer_spec hnd hi), hv w hC]
    exact h
  · rw [if_neg (by rw [hw]; simp)]
    exact ⟨fun g _ => hF.fn g, h⟩
theorem wpOpIn_putC (hF : Open F) (hnd : noDefer ops = true) {i j : Nat} {oi oj : Oper} {v : Value} (hi : ops[i]? = some oi) (hj : ops[j]? = some oj) (hap : oi.apart ops oj = true)
    (hsi : ∀ cs b, oi.op ≠ .select cs b) (hsj : ∀ cs b, oj.op ≠ .select cs b)
    (hQ : ∀ c a w, Q (.panic c) (a.put oi.dst v) w → Q (.panic c) a w) {K : Act → World → Prop} {a : Act} {w : World}
    (hy : yieldsC P ops C oi v a) (h : wpOpIn F m' P ops Q j K (a.put oi.dst v) w) :
    wpOpIn F m' P ops Q j (fun a' w' => yieldsC P ops C oi v a' ∧ K (a'.put oi.dst v) w') a w := by
  obtain ⟨h1, h2, h3⟩ := Oper.apart_spec hap
  have keep : ∀ (a : Act), yieldsC P ops C oi v a → ∀ u, yieldsC P ops C oi v (a.put oj.dst u) := fun a hy u =>
    yieldsC_same hy (execOp_put oi hsi a oj.dst u h3) (wanted_put oi a oj.dst u h3)
  have keepD : ∀ d, yieldsC P ops C oi v { a with defers := d :: a.defers } := fun d => yieldsC_same hy rfl rfl
  unfold wpOpIn at *
  simp only [hj] at h ⊢
  rw [wanted_put oj a oi.dst v h1] at h
  split
  · rename_i hw
    simp only [hw, if_true] at h
    unfold Oper.wpIn at *
    refine ⟨fun g _ => hF.fn g, ?_⟩
    have h := h.2
    rw [Oper.semAt_eq _ _ _ (noDefer_spec hnd hj), execOp_put oj hsj a oi.dst v h1] at h
    rw [Oper.semAt_eq _ _ _ (noDefer_spec hnd hj)]
    generalize (execOp a.eval oj).run P w = r at *
    cases r with
    | ok x w' =>
      cases x <;> simp only [Oper.uponIn] at h ⊢
      case value u => exact ⟨keep a hy u, by rw [← Act.put_comm a v u h2]; exact h⟩
      case skip => exact ⟨keep a hy _, by rw [← Act.put_comm a v undef h2]; exact h⟩
      case defer d =>
        refine ⟨keep _ (keepD d) _, ?_⟩
        rw [← Act.put_comm _ v undef h2, ← Act.put_defers]
        exact h
      case enter f args =>
        refine ⟨h.1, CallsIn.mono h.2 fun e w'' he => ?_⟩
        cases e with
        | returned u => exact ⟨keep a hy u, by rw [← Act.put_comm a v u h2]; exact he⟩
        | panicked c => exact hQ _ _ _ he
        | outgrown => exact he
      case row row args => exact ⟨h.1, RowsIn.mono h.2 fun u w'' he => ⟨keep a hy u, by rw [← Act.put_comm a v u h2]; exact he⟩⟩
      case round l f tmps assign body =>
        refine ⟨h.1, RoundIn.mono h.2 fun e w'' he => ?_⟩
        cases e with
        | returned u => exact ⟨keep a hy u, by rw [← Act.put_comm a v u h2]; exact he⟩
        | panicked c => exact hQ _ _ _ he
        | outgrown => exact he
    | halt x w' =>
      cases x <;> simp only [Oper.uponIn] at h ⊢
      case panic u => exact hQ _ _ _ h
  · rename_i hw
    simp only [hw] at h
    exact ⟨fun g _ => hF.fn g, keep a hy _, by rw [← Act.put_comm a v undef h2]; exact h.2⟩
theorem wpAnyC_first (hF : Open F) (hnd : noDefer ops = true) {i : Nat} {oi : Oper} {v : Value} (hi : ops[i]? = some oi) (hsel : ∀ (j : Nat) (o : Oper) cs b, ops[j]? = some o → o.op ≠ .select cs b)
    (hQ : ∀ c (d : Option Tmp) u a w, Q (.panic c) (a.put d u) w → Q (.panic c) a w) :
    ∀ (fuel : Nat) (listed : Array Bool) (a : Act) (w : World),
      (∀ j oj, ops[j]? = some oj → j ≠ i → listed.getD j true = false → (∀ e ∈ oj.after, Region.binds md e = true → e.on ≠ i) → oi.apart ops oj = true) →
      i ∈ Region.ready md ops listed → yieldsC P ops C oi v a →
      wpAnyC F m' P md ops C Q fuel (listed.setIfInBounds i true) (a.put oi.dst v) w → wpAnyC F m' P md ops C Q (fuel + 1) listed a w := by
  intro fuel
  induction fuel with
  | zero =>
    intro listed a w _ hr hy H
    refine ⟨wpAnyC_cls H, fun h => (by rw [h] at hr; cases hr), fun j hj => ?_⟩
    by_cases hji : j = i
    · subst hji; exact yieldsC_op hF hnd hi hy (wpAnyC_cls H) H
    · have := ready_mono hj hji
      rw [H.2.1] at this
      cases this
  | succ fuel ih =>
    intro listed a w hfree hr hy H
    refine ⟨wpAnyC_cls H, fun h => (by rw [h] at hr; cases hr), fun j hj => ?_⟩
    by_cases hji : j = i
    · subst hji; exact yieldsC_op hF hnd hi hy (wpAnyC_cls H) H
    · have h1 := H.2.2 j (ready_mono hj hji)
      obtain ⟨hjun, oj, hoj, hall⟩ := mem_ready.1 hj
      have hnot : ∀ e ∈ oj.after, Region.binds md e = true → e.on ≠ i := not_waits (mem_ready.1 hr).1 hall
      have h2 := wpOpIn_putC hF hnd hi hoj (hfree j oj hoj hji hjun hnot) (fun cs b => hsel i oi cs b hi) (fun cs b => hsel j oj cs b hoj) (fun c a w => hQ c _ _ a w) hy h1
      have hfree' : ∀ k ok, ops[k]? = some ok → k ≠ i → (listed.setIfInBounds j true).getD k true = false →
          (∀ e ∈ ok.after, Region.binds md e = true → e.on ≠ i) → oi.apart ops ok = true := fun k ok hk hki hun hno => by
        refine hfree k ok hk hki ?_ hno
        by_cases hjk : j = k
        · subst hjk; exact hjun
        · rw [getD_set_ne true hjk] at hun; exact hun
      refine wpOpIn_mono (fun a' w' h3 => ih (listed.setIfInBounds j true) a' w' hfree' (ready_mono hr (Ne.symm hji)) h3.1 ?_) h2
      rw [Array.setIfInBounds_comm _ _ hji]
      exact h3.2
end

/-- The reads in an order; then K. -/
def pureC (P : Program) (ops : Array Oper) (C : World → Prop) (K : Act → Prop) : List Nat → Act → Prop
  | [], a => K a
  | i :: rest, a => ∃ o v, ops[i]? = some o ∧ yieldsC P ops C o v a ∧ pureC P ops C K rest (a.put o.dst v)
/-- Each may come up at its turn, and is free. -/
def orderP (ops : Array Oper) : List Nat → Array Bool → Bool
  | [], _ => true
  | i :: rest, listed => (Region.ready .any ops listed).contains i && Region.free .any ops listed i && orderP ops rest (listed.setIfInBounds i true)
def listedP : List Nat → Array Bool → Array Bool
  | [], listed => listed
  | i :: rest, listed => listedP rest (listed.setIfInBounds i true)
section
variable {F : Fence} {m' : Nat} {P : Program} {ops : Array Oper} {C : World → Prop} {Q : Exit → Act → World → Prop}
theorem wpAnyC_order (hF : Open F) (hnd : noDefer ops = true) (hsel : Region.noSelect ops = true) (hQ : ∀ c (d : Option Tmp) u a w, Q (.panic c) (a.put d u) w → Q (.panic c) a w) {g : Nat} {w : World} :
    ∀ (l : List Nat) (listed : Array Bool) (a : Act), orderP ops l listed = true → pureC P ops C (fun a' => wpAnyC F m' P .any ops C Q g (listedP l listed) a' w) l a → wpAnyC F m' P .any ops C Q (l.length + g) listed a w
  | [], listed, a, _, h => by rw [List.length_nil, Nat.zero_add]; exact h
  | i :: l, listed, a, hB, h => by
    simp only [orderP, Bool.and_eq_true] at hB
    obtain ⟨o, v, ho, hy, hr⟩ := h
    rw [List.length_cons, show l.length + 1 + g = (l.length + g) + 1 by omega]
    exact wpAnyC_first hF hnd ho (Region.noSelect_spec hsel) hQ _ _ _ _ (Region.free_spec ho hB.1.2) (by simpa using hB.1.1) hy (wpAnyC_order hF hnd hsel hQ l _ _ hB.2 hr)
/-- The rest in the one order that is left, the class kept. -/
def wpListC (F : Fence) (n : Nat) (P : Program) (ops : Array Oper) (C : World → Prop) (Q : Exit → Act → World → Prop) : List Oper → Act → World → Prop
  | [], a, w => C w ∧ Q .normal a w
  | o :: rest, a, w => C w ∧ if Region.wanted o (yielded ops a.tmps) then o.wpIn F n P a w (wpListC F n P ops C Q rest) Q else wpListC F n P ops C Q rest (a.put o.dst undef) w
theorem wpAnyC_of_seq (hF : Open F) {md : Region.Mode} : ∀ (l : List Oper) (k : Nat) (listed : Array Bool) (a : Act) (w : World), (∀ j, l[j]? = ops[k + j]?) →
    Region.seqB md ops l.length k listed = true → wpListC F m' P ops C Q l a w → wpAnyC F m' P md ops C Q l.length listed a w
  | [], _, _, _, _, _, hB, h => ⟨h.1, by simpa [Region.seqB] using hB, h.2⟩
  | o :: l, k, listed, a, w, hl, hB, h => by
    have h0 : ops[k]? = some o := by simpa using (hl 0).symm
    simp only [List.length_cons, Region.seqB, Bool.and_eq_true, decide_eq_true_eq] at hB
    refine ⟨h.1, fun h1 => (by rw [hB.1] at h1; cases h1), fun i hi => ?_⟩
    rw [hB.1] at hi
    have hik : i = k := by simpa using hi
    subst hik
    have hw : wpOpIn F m' P ops Q i (wpListC F m' P ops C Q l) a w := by
      unfold wpOpIn
      simp only [h0]
      have h2 := h.2
      split
      · rename_i hw; rw [if_pos hw] at h2; exact h2
      · rename_i hw; rw [if_neg hw] at h2; exact ⟨fun g _ => hF.fn g, h2⟩
    exact wpOpIn_mono (fun a' w' h' => wpAnyC_of_seq hF l (i + 1) _ a' w' (fun j => by have := hl (j + 1); simpa [Nat.add_assoc, Nat.add_comm 1 j] using this) hB.2 h') hw
theorem pureC_nil {K : Act → Prop} {a : Act} (h : K a) : pureC P ops C K [] a := h
theorem wpAnyC_all {n : Nat} {md : Region.Mode} {rs : List Nat} {fuel : Nat} {listed : Array Bool} {a : Act} {w : World} (hr : Region.ready md ops listed = rs) (hne : rs ≠ []) (hC : C w)
    (h : ∀ i ∈ rs, wpOpIn F n P ops Q i (wpAnyC F n P md ops C Q fuel (listed.setIfInBounds i true)) a w) : wpAnyC F n P md ops C Q (fuel + 1) listed a w :=
  ⟨hC, fun h0 => absurd (hr ▸ h0) hne, hr ▸ h⟩
theorem wpAnyC_take (hF : Open F) (hnd : noDefer ops = true) (hsel : Region.noSelect ops = true) (hQ : ∀ c (d : Option Tmp) u a w, Q (.panic c) (a.put d u) w → Q (.panic c) a w) {i : Nat} {md : Region.Mode} {fuel : Nat} {listed : Array Bool} {a : Act} {w : World}
    (hr : (Region.ready md ops listed).contains i = true) (hf : Region.free md ops listed i = true) (h : ∃ o v, ops[i]? = some o ∧ yieldsC P ops C o v a ∧ wpAnyC F m' P md ops C Q fuel (listed.setIfInBounds i true) (a.put o.dst v) w) : wpAnyC F m' P md ops C Q (fuel + 1) listed a w := by
  obtain ⟨o, v, ho, hy, hk⟩ := h
  exact wpAnyC_first hF hnd ho (Region.noSelect_spec hsel) hQ fuel listed a w (Region.free_spec ho hf) (by simpa using hr) hy hk
theorem wpAnyC_end {n : Nat} {md : Region.Mode} {listed : Array Bool} {a : Act} {w : World} (hC : C w) (hr : Region.ready md ops listed = []) (h : Q .normal a w) : wpAnyC F n P md ops C Q 0 listed a w := ⟨hC, hr, h⟩
theorem wpOpIn_of {n i : Nat} {o : Oper} {a : Act} {w : World} {K : Act → World → Prop} (ho : ops[i]? = some o) (hw : Region.wanted o (yielded ops a.tmps) = true) (h : o.wpIn F n P a w K Q) : wpOpIn F n P ops Q i K a w := by
  unfold wpOpIn
  simp only [ho]
  rw [if_pos hw]
  exact h
/-- **A region: first what reads, then the rest.** -/
theorem wpIn_region_reads {r : Nat} {id : Nat} {a : Act} {w : World} {l : List Oper} (C : World → Prop) (L : List Nat) (g : Nat) (hm : P.follows .mixedOrders = true) (hnd : noDefer l.toArray = true) (hsel : Region.noSelect l.toArray = true)
    (hQ : ∀ c (d : Option Tmp) u a w, Q (.panic c) (a.put d u) w → Q (.panic c) a w) (hB : orderP l.toArray L (Array.replicate l.toArray.size false) = true) (hg : L.length + g = l.toArray.size)
    (h : pureC P l.toArray C (fun a' => wpAnyC (Fence.wide.inRound r) m' P .any l.toArray C Q g (listedP L (Array.replicate l.toArray.size false)) a' w.drew) L a) :
    (Code.region id l.toArray true).wpIn (Fence.wide.inRound r) m' P Q a w := by
  refine wpIn_region_any hm (wpAnyC_in (C := C) ?_)
  have := wpAnyC_order (open_round r) hnd hsel hQ L _ a hB h
  rw [hg] at this
  exact this
theorem wpIn_region_reads_seq {r : Nat} {id : Nat} {a : Act} {w : World} {l : List Oper} (C : World → Prop) (n : Nat) (hm : P.follows .mixedOrders = true) (hnd : noDefer l.toArray = true) (hsel : Region.noSelect l.toArray = true)
    (hQ : ∀ c (d : Option Tmp) u a w, Q (.panic c) (a.put d u) w → Q (.panic c) a w) (hB : orderP l.toArray (List.range n) (Array.replicate l.toArray.size false) = true) (hn : n ≤ l.length)
    (hS : Region.seqB .any l.toArray (l.drop n).length n (listedP (List.range n) (Array.replicate l.toArray.size false)) = true)
    (h : pureC P l.toArray C (fun a' => wpListC (Fence.wide.inRound r) m' P l.toArray C Q (l.drop n) a' w.drew) (List.range n) a) :
    (Code.region id l.toArray true).wpIn (Fence.wide.inRound r) m' P Q a w := by
  have hdl : (l.drop n).length = l.length - n := by simp
  refine wpIn_region_reads C (List.range n) (l.drop n).length hm hnd hsel hQ hB (by simp; omega) ?_
  have mono : ∀ (K K' : Act → Prop), (∀ a, K a → K' a) → ∀ (L : List Nat) (a : Act), pureC P l.toArray C K L a → pureC P l.toArray C K' L a := by
    intro K K' hk L
    induction L with
    | nil => exact fun a h => hk a h
    | cons i L ih => exact fun a ⟨o, v, h1, h2, h3⟩ => ⟨o, v, h1, h2, ih _ h3⟩
  exact mono _ _ (fun a' h' => wpAnyC_of_seq (open_round r) (l.drop n) n _ a' w.drew (fun j => by simp [List.getElem?_drop]) hS h') _ _ h
end
end Go.Proofs.YtjifajigigflkaaDoor
/- What Hit's inner function computes; its two tables in memory. -/
namespace Go.Proofs.YtjifajigigflkaaDoor
set_option linter.unusedSimpArgs false
set_option linter.unusedVariables false
open Go Go.RowKit Go.Shelf

/-- One number of the first set that is left: it, with what hits the rest; kept if it is better. -/
def hitS (h : Nat → Nat) (acc : Option Nat) (n : Nat) : Option Nat := match acc with
  | none => some (h n ||| 2 ^ n)
  | some t => if betB (h n ||| 2 ^ n) t then some (h n ||| 2 ^ n) else some t
def hitF (ls : List Nat) : Nat → Nat → Nat
  | 0, _ => 0
  | f + 1, left => if left = 0 then 0 else ((mem (ls.getD (Lib.ctz 64 left) 0)).foldl (hitS fun n => hitF ls f (diff left (hold ls ls.length n))) none).getD 0
/-- The best set for the sets of left. -/
def hitV (ls : List Nat) (left : Nat) : Nat := hitF ls (left + 1) left
theorem hitV_zero (ls : List Nat) : hitV ls 0 = 0 := by simp [hitV, hitF]
theorem foldl_congr' {h h' : Nat → Nat} : ∀ (l : List Nat) (acc : Option Nat), (∀ n ∈ l, h n = h' n) → l.foldl (hitS h) acc = l.foldl (hitS h') acc
  | [], _, _ => rfl
  | n :: l, acc, hh => by
    have e : hitS h acc n = hitS h' acc n := by unfold hitS; rw [hh n (by simp)]
    simp only [List.foldl_cons, e]
    exact foldl_congr' l _ fun m hm => hh m (by simp [hm])
theorem hold_bit (ls : List Nat) (n : Nat) : ∀ k i, (hold ls k n).testBit i = (decide (i < k) && (ls.getD i 0).testBit n)
  | 0, i => by simp [hold]
  | k + 1, i => by
    have ih := hold_bit ls n k i
    simp only [hold]
    by_cases hb : (ls.getD k 0).testBit n = true
    · rw [if_pos hb, Nat.testBit_or, ih, Nat.testBit_two_pow]
      by_cases e : k = i
      · subst e
        rw [hb]; simp
      · have : decide (i < k + 1) = decide (i < k) := by rw [Bool.eq_iff_iff]; simp; omega
        simp [e, this]
    · rw [if_neg hb, ih]
      by_cases e : i = k
      · subst e
        have : (ls.getD i 0).testBit n = false := by simpa using hb
        rw [this]; simp
      · have : decide (i < k + 1) = decide (i < k) := by rw [Bool.eq_iff_iff]; simp; omega
        rw [this]
theorem diff_le (N M : Nat) : diff N M ≤ N := by
  have h : diff N M &&& N = diff N M := by
    apply Nat.eq_of_testBit_eq; intro i
    rw [Nat.testBit_and, testBit_diff]
    cases N.testBit i <;> simp
  rw [← h]; exact Nat.and_le_right
/-- What is left without what a number of its first set hits is less. -/
theorem left_lt {ls : List Nat} {left n : Nat} (h0 : left ≠ 0) (h64 : left < 2 ^ 64) (hl : Lib.ctz 64 left < ls.length) (hN : ls.getD (Lib.ctz 64 left) 0 < 2 ^ 256) (hn : n ∈ mem (ls.getD (Lib.ctz 64 left) 0)) : diff left (hold ls ls.length n) < left := by
  refine Nat.lt_of_le_of_ne (diff_le _ _) fun e => ?_
  have h1 := (ctz_spec left h0 h64).2.1
  have h2 : (diff left (hold ls ls.length n)).testBit (Lib.ctz 64 left) = false := by
    rw [testBit_diff, hold_bit, (mem_iff hN).1 hn]; simp [hl]
  rw [e, h1] at h2
  cases h2
theorem hitF_eq {ls : List Nat} (hls : ∀ N ∈ ls, N < 2 ^ 256) (hlen : ls.length ≤ 16) : ∀ (f left : Nat), left < f → left < 2 ^ ls.length → hitF ls f left = hitV ls left
  | 0, _, h, _ => by omega
  | f + 1, left, h, hM => by
    unfold hitV
    simp only [hitF]
    by_cases h0 : left = 0
    · simp [h0]
    · rw [if_neg h0, if_neg h0]
      have h16 : 2 ^ ls.length ≤ 2 ^ 16 := Nat.pow_le_pow_right (by decide) hlen
      have hc := ctz_spec left h0 (by omega)
      have hl : Lib.ctz 64 left < ls.length := by
        rcases Nat.lt_or_ge (Lib.ctz 64 left) ls.length with h1 | h1
        · exact h1
        · have := Nat.testBit_lt_two_pow (Nat.lt_of_lt_of_le hM (Nat.pow_le_pow_right (n := 2) (by decide) h1))
          rw [hc.2.1] at this; cases this
      have hN : ls.getD (Lib.ctz 64 left) 0 < 2 ^ 256 := by
        rw [List.getD_eq_getElem?_getD, List.getElem?_eq_getElem hl]; exact hls _ (List.getElem_mem hl)
      congr 1
      refine foldl_congr' _ _ fun n hn => ?_
      have hlt := left_lt h0 (by omega) hl hN hn
      rw [hitF_eq hls hlen f _ (by omega) (by omega), hitF_eq hls hlen left _ (by omega) (by omega)]
  termination_by f left => (f, left)
/-- What hitV is, of itself. -/
theorem hitV_eq {ls : List Nat} (hls : ∀ N ∈ ls, N < 2 ^ 256) (hlen : ls.length ≤ 16) {left : Nat} (h0 : left ≠ 0) (hM : left < 2 ^ ls.length) :
    hitV ls left = ((mem (ls.getD (Lib.ctz 64 left) 0)).foldl (hitS fun n => hitV ls (diff left (hold ls ls.length n))) none).getD 0 := by
  have h16 : 2 ^ ls.length ≤ 2 ^ 16 := Nat.pow_le_pow_right (by decide) hlen
  have hc := ctz_spec left h0 (by omega)
  have hl : Lib.ctz 64 left < ls.length := by
    rcases Nat.lt_or_ge (Lib.ctz 64 left) ls.length with h1 | h1
    · exact h1
    · have := Nat.testBit_lt_two_pow (Nat.lt_of_lt_of_le hM (Nat.pow_le_pow_right (n := 2) (by decide) h1))
      rw [hc.2.1] at this; cases this
  have hN : ls.getD (Lib.ctz 64 left) 0 < 2 ^ 256 := by
    rw [List.getD_eq_getElem?_getD, List.getElem?_eq_getElem hl]; exact hls _ (List.getElem_mem hl)
  show hitF ls (left + 1) left = _
  simp only [hitF]
  rw [if_neg h0]
  congr 1
  refine foldl_congr' _ _ fun n hn => ?_
  have hlt := left_lt h0 (by omega) hl hN hn
  exact hitF_eq hls hlen left _ hlt (by omega)
theorem hitS_some (h : Nat → Nat) : ∀ (l : List Nat) (t : Nat), (l.foldl (hitS h) (some t)).isSome = true
  | [], _ => rfl
  | n :: l, t => by
    simp only [List.foldl_cons]
    have : ∃ u, hitS h (some t) n = some u := by unfold hitS; dsimp only; split <;> exact ⟨_, rfl⟩
    obtain ⟨u, e⟩ := this
    rw [e]; exact hitS_some h l u
theorem hitS_ne (h : Nat → Nat) {l : List Nat} (hl : l ≠ []) : (l.foldl (hitS h) none).isSome = true := by
  cases l with
  | nil => exact absurd rfl hl
  | cons n l => simp only [List.foldl_cons]; exact hitS_some h l _

theorem hitS_lt {h : Nat → Nat} : ∀ (l : List Nat) (acc : Option Nat), (∀ n ∈ l, h n < 2 ^ 256 ∧ n < 256) → (∀ t, acc = some t → t < 2 ^ 256) → ∀ t, l.foldl (hitS h) acc = some t → t < 2 ^ 256
  | [], acc, _, ha, t, ht => ha t ht
  | n :: l, acc, hl, ha, t, ht => by
    refine hitS_lt l (hitS h acc n) (fun m hm => hl m (by simp [hm])) (fun u hu => ?_) t ht
    have hn := hl n (by simp)
    have hs : h n ||| 2 ^ n < 2 ^ 256 := Nat.or_lt_two_pow hn.1 (pow_lt256 hn.2)
    cases acc with
    | none => simp only [hitS, Option.some.injEq] at hu; omega
    | some v =>
      simp only [hitS] at hu
      have hv := ha v rfl
      split at hu
      · simp only [Option.some.injEq] at hu; omega
      · simp only [Option.some.injEq] at hu; omega
theorem hitF_lt {ls : List Nat} : ∀ (f left : Nat), hitF ls f left < 2 ^ 256
  | 0, _ => by simp [hitF]
  | f + 1, left => by
    simp only [hitF]
    split
    · exact Nat.two_pow_pos _
    · cases hc : (mem (ls.getD (Lib.ctz 64 left) 0)).foldl (hitS fun n => hitF ls f (diff left (hold ls ls.length n))) none with
      | none => exact Nat.two_pow_pos _
      | some t =>
        refine hitS_lt _ none (fun n hn => ⟨hitF_lt f _, ?_⟩) (fun t ht => by cases ht) t hc
        have := (memF_iff.1 hn).2.1; omega
theorem hitV_lt (ls : List Nat) (left : Nat) : hitV ls left < 2 ^ 256 := hitF_lt _ _
theorem bits_andNot_i64 (a b : Nat) (ha : a < 9223372036854775808) (hb : b < 9223372036854775808) : bits .andNot .i64 (a : Int) (b : Int) = ((diff a b : Nat) : Int) := by
  have h1 : ∀ x : Nat, x < 9223372036854775808 → (BitVec.ofInt 64 (x : Int)).toNat = x := fun x hx => by
    rw [BitVec.ofInt_natCast, BitVec.toNat_ofNat]; exact Nat.mod_eq_of_lt (by omega)
  have hd : diff a b < 9223372036854775808 := Nat.lt_of_le_of_lt (diff_le a b) ha
  have e : (BitVec.ofInt 64 (a : Int) &&& ~~~ BitVec.ofInt 64 (b : Int)).toNat = diff a b := by
    apply Nat.eq_of_testBit_eq; intro i
    rw [testBit_diff, ← BitVec.getLsbD, BitVec.getLsbD_and, BitVec.getLsbD_not]
    simp only [BitVec.getLsbD, h1 a ha, h1 b hb]
    by_cases hi : i < 64
    · simp [hi]
    · have : a.testBit i = false := Nat.testBit_lt_two_pow (Nat.lt_of_lt_of_le ha (Nat.le_trans (by decide) (Nat.pow_le_pow_right (n := 2) (by decide) (show 63 ≤ i by omega))))
      simp [this]
  show IntKind.i64.wrap ((BitVec.ofInt 64 (a : Int) &&& ~~~ BitVec.ofInt 64 (b : Int)).toNat : Int) = _
  rw [e]
  exact IntWalk.i64_in _ (by omega)

/-! ### The tables -/
def knA (M : Nat) (kn : Nat → Bool) : Array Value := ((List.range M).map fun x => Value.bool (kn x)).toArray
def beA (M : Nat) (be : Nat → Nat) : Array Value := ((List.range (M * 4)).map fun i => Value.int .u64 (word (be (i / 4)) (i % 4) : Int)).toArray
theorem knA_size (M : Nat) (kn : Nat → Bool) : (knA M kn).size = M := by simp [knA]
theorem beA_size (M : Nat) (be : Nat → Nat) : (beA M be).size = M * 4 := by simp [beA]
theorem knA_get (M : Nat) (kn : Nat → Bool) (x : Nat) (h : x < M) : (knA M kn)[x]? = some (.bool (kn x)) := by simp [knA, h]
theorem beA_get (M : Nat) (be : Nat → Nat) (i : Nat) (h : i < M * 4) : (beA M be)[i]? = some (.int .u64 (word (be (i / 4)) (i % 4))) := by simp [beA, h]
def updB (f : Nat → Bool) (x : Nat) (b : Bool) : Nat → Bool := fun y => if y = x then b else f y
def updN (f : Nat → Nat) (x v : Nat) : Nat → Nat := fun y => if y = x then v else f y
theorem knA_set (M : Nat) (kn : Nat → Bool) (x : Nat) (b : Bool) (hx : x < M) : (knA M kn).setIfInBounds x (.bool b) = knA M (updB kn x b) := by
  apply Array.ext_getElem?
  intro i
  rw [Array.getElem?_setIfInBounds]
  by_cases hi : i < M
  · rw [knA_get M kn i hi, knA_get M _ i hi]
    by_cases e : x = i
    · subst e; simp [knA_size, hi, updB]
    · rw [if_neg e]; simp [updB, Ne.symm e]
  · have h1 : ∀ f, (knA M f)[i]? = none := fun f => Array.getElem?_eq_none (by rw [knA_size]; omega)
    rw [h1, h1]
    simp [knA_size]; omega
theorem beA_set (M : Nat) (be : Nat → Nat) (x s : Nat) (hx : x < M) :
    ((((beA M be).setIfInBounds (x * 4) (.int .u64 (word s 0))).setIfInBounds (x * 4 + 1) (.int .u64 (word s 1))).setIfInBounds (x * 4 + 2) (.int .u64 (word s 2))).setIfInBounds (x * 4 + 3) (.int .u64 (word s 3)) = beA M (updN be x s) := by
  apply Array.ext_getElem?
  intro i
  simp only [Array.getElem?_setIfInBounds, Array.size_setIfInBounds, beA_size]
  by_cases hi : i < M * 4
  · rw [beA_get M be i hi, beA_get M _ i hi]
    by_cases e : i / 4 = x
    · have : i = x * 4 ∨ i = x * 4 + 1 ∨ i = x * 4 + 2 ∨ i = x * 4 + 3 := by omega
      have hu : updN be x s (i / 4) = s := by simp [updN, e]
      rw [hu]
      rcases this with h | h | h | h
      · subst h
        have : x * 4 < M * 4 := hi
        simp [hi, show ¬ (x * 4 + 3 = x * 4) by omega]
      · subst h; simp [hi, show (x * 4 + 1) % 4 = 1 by omega]
      · subst h; simp [hi, show (x * 4 + 2) % 4 = 2 by omega]
      · subst h; simp [hi, show (x * 4 + 3) % 4 = 3 by omega]
    · have hu : updN be x s (i / 4) = be (i / 4) := by simp [updN, e]
      rw [hu, if_neg (by omega), if_neg (by omega), if_neg (by omega), if_neg (by omega)]
  · have h1 : ∀ f, (beA M f)[i]? = none := fun f => Array.getElem?_eq_none (by rw [beA_size]; omega)
    rw [h1, h1, if_neg (by omega), if_neg (by omega), if_neg (by omega), if_neg (by omega)]
end Go.Proofs.YtjifajigigflkaaDoor
