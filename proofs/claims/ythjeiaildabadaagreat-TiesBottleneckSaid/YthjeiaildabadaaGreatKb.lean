/- Layer 4: slices.Reverse and slices.Sort of numbers of one's own, out of the library's contracts. / Layer 4: shortest, whole: a walk, or none. / Layer 4: walk: Chain and Why. -/
import Derived.Test.YthjeiaildabadaaGreatShelf2
import Derived.Test.YthjeiaildabadaaGreatKa
import Derived.Sort.Grow
import Derived.Test.YthjeiaildabadaaGreatK9
/- Layer 4: slices.Reverse and slices.Sort of numbers of one's own, out of the library's contracts. -/
namespace Go.Proofs.YthjeiaildabadaaGreat
set_option linter.unusedSimpArgs false
set_option linter.unusedVariables false
open Go Go.RowKit Go.Sort

theorem own_row {W : World} {base g n cap : Nat} {xs : List Value} (h : W.ownsRow base 3 1 (.slice (some ⟨g, 0, none⟩) n cap) n xs) : ∃ cur, base ≤ g ∧ g < W.heap.size ∧ W.heap[g]? = some (.cells cur 3 (0, 0)) ∧ n ≤ cap ∧ cap ≤ maxLen ∧ cur.size = cap ∧ cur.toList.take n = xs ∧ xs.length = n := by
  obtain ⟨hl, h⟩ := h
  rcases h with ⟨e, _⟩ | ⟨g', cap', cur, e, hg, hb, h1, h2, h3, h4⟩
  · cases e
  · injection e with e1 e2 e3
    injection e1 with e1
    injection e1 with e1
    subst e1
    subst e3
    exact ⟨cur, hg, (Array.getElem?_eq_some_iff.1 hb).1, hb, h1, h2, by omega, by simpa using h4, by omega⟩
theorem own_shape {W : World} {base n cap : Nat} {r : Option Addr} {xs : List Value} (h : W.ownsRow base 3 1 (.slice r n cap) n xs) : n = 0 ∨ ∃ g, r = some ⟨g, 0, none⟩ := by
  rcases h.2 with ⟨e, h0⟩ | ⟨g', cap', cur, e, _⟩
  · exact .inl h0
  · injection e with e1 e2 e3
    exact .inr ⟨g', e1⟩
theorem row_holds {W : World} {base g cap : Nat} {l : List Int} (h : W.ownsRow base 3 1 (.slice (some ⟨g, 0, none⟩) l.length cap) l.length (ivL l)) : Holds (Value.int .i64) W g 0 l.toArray := by
  obtain ⟨cur, hg, hlt, hb, h1, h2, h3, h4, _⟩ := own_row h
  intro j hj
  have hj : j < l.length := by simpa using hj
  have hc : cur[j]? = some (Value.int .i64 l.toArray[j]!) := by
    have e : (cur.toList.take l.length)[j]? = (ivL l)[j]? := by rw [h4]
    rw [List.getElem?_take, if_pos hj] at e
    rw [← Array.getElem?_toList, e, ivL, List.getElem?_map, List.getElem?_eq_getElem hj, getElem!_pos _ _ (by simpa using hj)]
    simp
  refine ⟨?_, ?_⟩
  · simp [World.cell?, hb, hc]
  · simp [World.frozen?, hb]
theorem row_put {W : World} {base g cap n : Nat} {l d : List Int} (h : W.ownsRow base 3 1 (.slice (some ⟨g, 0, none⟩) l.length cap) l.length (ivL l)) (hd : d.length = l.length) (hbase : base ≤ W.heap.size) (os : Array Obj) :
    (grow (putRow (Value.int .i64) (Sort.ahead W n) g 0 d.toArray) os).ownsRow base 3 1 (.slice (some ⟨g, 0, none⟩) l.length cap) l.length (ivL d) ∧ Below base W (grow (putRow (Value.int .i64) (Sort.ahead W n) g 0 d.toArray) os) := by
  obtain ⟨cur, hg, hlt, hb, h1, h2, h3, h4, _⟩ := own_row h
  have hlt' : g < (putRow (Value.int .i64) (Sort.ahead W n) g 0 d.toArray).heap.size := by simpa using hlt
  have hcell : (grow (putRow (Value.int .i64) (Sort.ahead W n) g 0 d.toArray) os).heap[g]? = some (.cells (putCells (Value.int .i64) 0 d.toArray cur) 3 (0, 0)) := by
    have e : (grow (putRow (Value.int .i64) (Sort.ahead W n) g 0 d.toArray) os).heap[g]? = (putRow (Value.int .i64) (Sort.ahead W n) g 0 d.toArray).heap[g]? := by
      simp only [grow]
      rw [Array.getElem?_append_left hlt']
    rw [e]
    simp only [putRow, mapBlock, Sort.ahead, Array.getElem?_modify, if_true, hb, Option.map_some, onCells]
  refine ⟨⟨by rw [ivL_len]; omega, .inr ⟨g, cap, putCells (Value.int .i64) 0 d.toArray cur, rfl, hg, hcell, h1, h2, by simp [putCells, h3], ?_⟩⟩, ?_⟩
  · rw [Nat.mul_one]
    apply List.ext_getElem?
    intro j
    rw [List.getElem?_take]
    by_cases hj : j < l.length
    · rw [if_pos hj, Array.getElem?_toList]
      simp only [putCells, Array.getElem?_mapIdx]
      rw [Array.getElem?_eq_getElem (by omega : j < cur.size), Option.map_some, if_pos ⟨Nat.zero_le _, by simp; omega⟩, ivL, List.getElem?_map, List.getElem?_eq_getElem (by omega : j < d.length), Nat.sub_zero, getElem!_pos _ _ (by simp; omega)]
      simp
    · rw [if_neg hj, ivL, List.getElem?_map, List.getElem?_eq_none (by omega : d.length ≤ j)]
      rfl
  · refine ⟨rfl, rfl, rfl, ?_, fun k hk => ?_⟩
    · simp [grow]
    · have hkk : k ≠ g := by omega
      have e : (grow (putRow (Value.int .i64) (Sort.ahead W n) g 0 d.toArray) os).heap[k]? = (putRow (Value.int .i64) (Sort.ahead W n) g 0 d.toArray).heap[k]? := by
        simp only [grow]
        rw [Array.getElem?_append_left (by simp; omega)]
      rw [e]
      simp only [putRow, mapBlock, Sort.ahead, Array.getElem?_modify]
      rw [if_neg (fun e => hkk e.symm)]
theorem rev_ok : RevOk := by
  intro W base r cap l hl hb h
  rcases own_shape h with h0 | ⟨g, rfl⟩
  · have e : l = [] := List.length_eq_zero_iff.1 h0
    subst e
    refine (Tryz.slices_Reverse_int_empty r cap W).mono fun e w' he => ?_
    obtain ⟨rfl, rfl⟩ := he
    exact ⟨⟨_, rfl⟩, h, Below.refl _ _⟩
  · refine (Tryz.slices_Reverse_int g 0 cap l W (row_holds h) (by omega)).mono fun e w' he => ?_
    obtain ⟨rfl, n, rfl⟩ := he
    have := row_put (n := n) (d := l.reverse) h (by simp) hb #[]
    rw [grow_empty] at this
    exact ⟨⟨_, rfl⟩, this.1, this.2⟩
/-- What slices.Sort does with a row of numbers of one's own. -/
theorem sort_ok (W : World) (base : Nat) (r : Option Addr) (cap : Nat) (l : List Int) (hl : l.length ≤ 1000) (hne : l ≠ []) (hb : base ≤ W.heap.size) (h : W.ownsRow base 3 1 (.slice r l.length cap) l.length (ivL l)) :
    Calls Tryz.prog 68 #[.slice r l.length cap] W fun e w' => (∃ u, e = .returned u) ∧ w'.ownsRow base 3 1 (.slice r l.length cap) l.length (ivL (l.mergeSort fun x y => decide (x ≤ y))) ∧ Below base W w' := by
  rcases own_shape h with h0 | ⟨g, rfl⟩
  · exact absurd (List.length_eq_zero_iff.1 h0) hne
  · obtain ⟨cur, hg, hlt, _⟩ := own_row h
    refine (Tryz.slices_Sort_int g 0 cap l W (row_holds h) hlt (by omega)).mono fun e w' he => ?_
    obtain ⟨rfl, n, os, rfl⟩ := he
    have := row_put (n := n) (d := l.mergeSort fun x y => decide (x ≤ y)) h (by simp) hb os
    exact ⟨⟨_, rfl⟩, this.1, this.2⟩
end Go.Proofs.YthjeiaildabadaaGreat
/- Layer 4: shortest, whole: a walk, or none. -/
namespace Go.Proofs.YthjeiaildabadaaGreat
set_option linter.unusedSimpArgs false
set_option linter.unusedVariables false
open Go Go.RowKit

/-- The way that a search leaves, in memory: the ties from the first place to the last. -/
def WayAt (ts : List TieD) (cuts a b base : Nat) (c : List StepD) (u : Value) (w' : World) : Prop :=
  ∃ (l : List Int) (r : Option Addr) (k : Nat), Bk c (a, 0) (b, cuts) l.reverse ∧ leadF ts l ((a : Int), 0) = some ((b : Int), (cuts : Int)) ∧ l.length < 64 ∧ u = .slice r l.length k ∧ w'.ownsRow base 3 1 (.slice r l.length k) l.length (ivL l)
set_option maxRecDepth 100000 in
theorem shortest_any (n : Nat) (a0 : Option Addr) (cap : Nat) (ts : List TieD) (gv : Value) (a b cuts : Nat) (w : World) (hl : ts.length ≤ 512) (hn : n ≤ 32) (hv : ∀ t ∈ ts, tieB t n = true) (ha : a < n) (hb : b < n) (hc : cuts ≤ 1) (hs : TiesAt w a0 ts) :
    Calls Tryz.prog 65 #[.agg #[.int .i64 n, .slice a0 ts.length cap, gv], .int .i64 a, .int .i64 b, .int .i64 cuts] w fun e w' =>
      (((∀ l : List Int, leadF ts l ((a : Int), 0) ≠ some ((b : Int), (cuts : Int))) ∧ e = .returned (.tuple #[.slice none 0 0, .bool false])) ∨
        ∃ c u, Fnd ts cuts a (b, cuts) c ∧ e = .returned (.tuple #[u, .bool true]) ∧ WayAt ts cuts a b w.heap.size c u w') ∧ Below w.heap.size w w' := by
  refine (shortest_walk n a0 cap ts gv a b cuts w hl hn hv ha hb hc hs (WayAt ts cuts a b w.heap.size) ?_).mono ?_
  · rw [Hid]
    intro W g c hB hf hd hk
    obtain ⟨l, h1, h2, h3⟩ := hf.way hn hc hv ha hb (Nat.le_refl _) hd
    have h := back_any rev_ok c (a, 0) (b, cuts) l g W h1 (by omega) hk
    refine Calls.mono h ?_
    rintro e w' ⟨r, k, rfl, ho, hb'⟩
    refine ⟨_, rfl, ⟨l.reverse, r, k, by rw [List.reverse_reverse]; exact h1, h2, by simpa using h3, by simp, ?_⟩, hb'⟩
    simpa using own_monoI ho hB.size
  · rintro e w' ⟨c, hf, hcase, hB⟩
    refine ⟨?_, hB⟩
    rcases hcase with ⟨hd, rfl⟩ | ⟨hd, u, rfl, hbp⟩
    · exact .inl ⟨hf.none hn hc hv ha hd hb (Nat.le_refl _), rfl⟩
    · exact .inr ⟨c, u, hf, rfl, hbp⟩
end Go.Proofs.YthjeiaildabadaaGreat
/- Layer 4: walk: Chain and Why. -/
namespace Go.Proofs.YthjeiaildabadaaGreat
set_option linter.unusedSimpArgs false
set_option linter.unusedVariables false
open Go Go.RowKit

/-- What a search from x to y comes to. -/
def WayL (ts : List TieD) (cuts : Nat) (x y : Int) (l : List Int) : Prop := ∃ (a b : Nat) (c : List StepD), x = a ∧ y = b ∧ Fnd ts cuts a (b, cuts) c ∧ Bk c (a, 0) (b, cuts) l.reverse
def WP (ts : List TieD) (cuts : Nat) (x y : Int) (base : Nat) (u : Value) (v : Bool) (w' : World) : Prop :=
  (v = false ∧ u = .slice none 0 0 ∧ ∀ l : List Int, leadF ts l (x, 0) ≠ some (y, (cuts : Int))) ∨
  (v = true ∧ ∃ (l : List Int) (r : Option Addr) (k : Nat), WayL ts cuts x y l ∧ leadF ts l (x, 0) = some (y, (cuts : Int)) ∧ l.length < 64 ∧ u = .slice r l.length k ∧ w'.ownsRow base 3 1 (.slice r l.length k) l.length (ivL l))
theorem WP.mono {ts : List TieD} {cuts : Nat} {x y : Int} {base base' : Nat} {u : Value} {v : Bool} {w' : World} (h : WP ts cuts x y base u v w') (hb : base' ≤ base) : WP ts cuts x y base' u v w' := by
  rcases h with h | ⟨e, l, r, k, h1, h2, h3, h4, h5⟩
  · exact .inl h
  · exact .inr ⟨e, l, r, k, h1, h2, h3, h4, own_monoI h5 hb⟩
theorem shortest_wp (n : Nat) (a0 : Option Addr) (cap : Nat) (ts : List TieD) (gv : Value) (x y : Int) (cuts : Nat) (w : World) (hl : ts.length ≤ 512) (hn : n ≤ 32) (hv : ∀ t ∈ ts, tieB t n = true) (hxy : (ftB x 0 (n - 1) && ftB y 0 (n - 1)) = true) (hc : cuts ≤ 1) (hs : TiesAt w a0 ts) :
    Calls Tryz.prog 65 #[.agg #[.int .i64 n, .slice a0 ts.length cap, gv], .int .i64 x, .int .i64 y, .int .i64 cuts] w fun e w' =>
      ∃ u v, e = .returned (.tuple #[u, .bool v]) ∧ WP ts cuts x y w.heap.size u v w' ∧ Below w.heap.size w w' := by
  unfold ftB at hxy
  simp only [Bool.and_eq_true, decide_eq_true_eq] at hxy
  obtain ⟨a, rfl⟩ := Int.eq_ofNat_of_zero_le (by omega : 0 ≤ x)
  obtain ⟨b, rfl⟩ := Int.eq_ofNat_of_zero_le (by omega : 0 ≤ y)
  refine (shortest_any n a0 cap ts gv a b cuts w hl hn hv (by omega) (by omega) hc hs).mono ?_
  rintro e w' ⟨⟨h1, rfl⟩ | ⟨c, u, h1, rfl, l, r, k, h2, h3, h4, h5, h6⟩, hB⟩
  · exact ⟨_, _, rfl, .inl ⟨rfl, rfl, h1⟩, hB⟩
  · exact ⟨_, _, rfl, .inr ⟨rfl, l, r, k, ⟨a, b, c, rfl, rfl, h1, h2⟩, h3, h4, h5, h6⟩, hB⟩
set_option maxRecDepth 100000 in
set_option maxHeartbeats 4000000 in
theorem walk_any (n : Int) (a : Option Addr) (cap : Nat) (ts : List TieD) (x y : Int) (cuts : Nat) (w : World) (hc : cuts ≤ 1) (h0 : errA n ts x y = 0) (hs : TiesAt w a ts) :
    Calls Tryz.prog 75 #[gV n a ts.length cap, .int .i64 x, .int .i64 y, .int .i64 cuts] w fun e w' => ∃ u v, e = .returned (.tuple #[u, .bool v, .int .i64 0]) ∧ WP ts cuts x y w.heap.size u v w' ∧ Below w.heap.size w w' := by
  obtain ⟨hok, hxy⟩ := errA_ok h0
  obtain ⟨k, rfl, hk1, hk2, hl, hv⟩ := okG_parts hok
  have HP : Hid (∀ W, Below w.heap.size w W → Calls Tryz.prog 50 #[gV k a ts.length cap, .int .i64 x, .int .i64 y] W fun e w' => e = .returned (.int .i64 0) ∧ Below W.heap.size W w') := fun W hb => by
    have h := tPair_any k a cap ts x y W (by omega) (hs.below hb); rw [h0] at h; exact h
  have HBE : Hid (∀ W, Below w.heap.size w W → Calls Tryz.prog 43 #[gV k a ts.length cap] W fun e w' => ∃ g, e = .returned (wkV k a ts.length cap g k) ∧ W.heap.size ≤ g ∧ NB w' g (grpL k ts) ∧ Below W.heap.size W w') := fun W hb => begin_any k a cap ts W hk2 hl hv (hs.below hb)
  have HSH : Hid (∀ W gv, Below w.heap.size w W → Calls Tryz.prog 65 #[.agg #[.int .i64 k, .slice a ts.length cap, gv], .int .i64 x, .int .i64 y, .int .i64 cuts] W fun e w' => ∃ u v, e = .returned (.tuple #[u, .bool v]) ∧ WP ts cuts x y w.heap.size u v w' ∧ Below W.heap.size W w') := fun W gv hb => (shortest_wp k a cap ts gv x y cuts W hl hk2 hv hxy hc (hs.below hb)).mono fun e w' ⟨u, v, h1, h2, h3⟩ => ⟨u, v, h1, h2.mono hb.size, h3⟩
  obtain ⟨m, hm⟩ : ∃ m, m = ts.length := ⟨_, rfl⟩
  rw [← hm] at HP HBE HSH ⊢
  have HK := Lib.hid (Blk.new w [.int .i64 k, .slice a m cap] 24)
  have HB0 : Hid (Below w.heap.size w (w.alloc (.cells #[.int .i64 k, .slice a m cap] 24))) := (Below.refl _ _).alloc (Nat.le_refl _) _
  clear hm hs hok hxy h0 hl hv hk1 hk2
  simp only [gV, wkV] at HP HBE ⊢
  go_enter Tryz.func75, Tryz.ntmps75
  go_wp2_with (first | (go_at_call 50; refine (HP.out _ HB0.out).mono ?_; rintro e w1 ⟨rfl, hb⟩; clear HP; have HK1 := Lib.hid (HK.out.below hb); have HB1 := Lib.hid (HB0.out.trans (hb.mono HB0.out.size)); clear hb; have c0 := HK1.out.cell (i := 0) rfl; have c1 := HK1.out.cell (i := 1) rfl) | (go_at_call 43; refine (HBE.out _ HB1.out).mono ?_; rintro e w2 ⟨g, rfl, _, _, hb⟩; clear HBE c0 c1; have HB2 := Lib.hid (HB1.out.trans (hb.mono HB1.out.size)); clear hb) | (go_at_call 65; refine (HSH.out _ _ HB2.out).mono ?_; rintro e w3 ⟨u, v, rfl, hwp, hb⟩; clear HSH; have HWP := Lib.hid hwp; have HB3 := Lib.hid (HB2.out.trans (hb.mono HB2.out.size)); clear hb hwp))
  go_ret3
  exact ⟨_, _, rfl, HWP.out, HB3.out⟩
set_option maxRecDepth 100000 in
set_option maxHeartbeats 4000000 in
theorem walk_bad (n : Int) (a : Option Addr) (cap : Nat) (ts : List TieD) (x y c : Int) (w : World) (hl : ts.length ≤ 9223372036854775807) (h0 : errA n ts x y ≠ 0) (hs : TiesAt w a ts) :
    Calls Tryz.prog 75 #[gV n a ts.length cap, .int .i64 x, .int .i64 y, .int .i64 c] w fun e w' => e = .returned (.tuple #[.slice none 0 0, .bool false, .int .i64 (errA n ts x y)]) ∧ Below w.heap.size w w' := by
  have HP : Hid (∀ W, Below w.heap.size w W → Calls Tryz.prog 50 #[gV n a ts.length cap, .int .i64 x, .int .i64 y] W fun e w' => e = .returned (.int .i64 (errA n ts x y)) ∧ Below W.heap.size W w') := fun W hb => tPair_any n a cap ts x y W hl (hs.below hb)
  generalize errA n ts x y = E at *
  generalize ts.length = m at *
  have HB0 : Hid (Below w.heap.size w (w.alloc (.cells #[.int .i64 n, .slice a m cap] 24))) := (Below.refl _ _).alloc (Nat.le_refl _) _
  clear hl hs
  have HK := Lib.hid (Blk.new w [.int .i64 n, .slice a m cap] 24)
  simp only [gV] at HP ⊢
  go_enter Tryz.func75, Tryz.ntmps75
  go_wp2_with (first | (go_at_call 50; refine (HP.out _ HB0.out).mono ?_; rintro e w1 ⟨rfl, hb⟩; clear HP; have HB1 := Lib.hid (HB0.out.trans (hb.mono HB0.out.size)); clear hb))
  go_ret3
  exact ⟨rfl, HB1.out⟩
set_option maxRecDepth 100000 in
theorem chain_any (n : Int) (a : Option Addr) (cap : Nat) (ts : List TieD) (x y : Int) (w : World) (h0 : errA n ts x y = 0) (hs : TiesAt w a ts) :
    Calls Tryz.prog 29 #[gV n a ts.length cap, .int .i64 x, .int .i64 y] w fun e w' => ∃ u v, e = .returned (.tuple #[u, .bool v, .int .i64 0]) ∧ WP ts 0 x y w.heap.size u v w' ∧ Below w.heap.size w w' := by
  have HW : Hid (∀ W, Below w.heap.size w W → Calls Tryz.prog 75 #[gV n a ts.length cap, .int .i64 x, .int .i64 y, .int .i64 0] W fun e w' => ∃ u v, e = .returned (.tuple #[u, .bool v, .int .i64 0]) ∧ WP ts 0 x y w.heap.size u v w' ∧ Below W.heap.size W w') := fun W hb => (walk_any n a cap ts x y 0 W (by omega) h0 (hs.below hb)).mono fun e w' ⟨u, v, h1, h2, h3⟩ => ⟨u, v, h1, h2.mono hb.size, h3⟩
  generalize ts.length = m at *
  have HB0 : Hid (Below w.heap.size w (w.alloc (.cells #[.int .i64 n, .slice a m cap] 24))) := (Below.refl _ _).alloc (Nat.le_refl _) _
  clear h0 hs
  simp only [gV] at HW ⊢
  go_enter Tryz.func29, Tryz.ntmps29
  go_wp2_with (first | (go_at_call 75; refine (HW.out _ HB0.out).mono ?_; rintro e w1 ⟨u, v, rfl, hwp, hb⟩; have HWP := Lib.hid hwp; have HB3 := Lib.hid (HB0.out.trans (hb.mono HB0.out.size)); clear hb hwp))
  go_ret3
  exact ⟨_, _, rfl, HWP.out, HB3.out⟩
set_option maxRecDepth 100000 in
theorem chain_bad (n : Int) (a : Option Addr) (cap : Nat) (ts : List TieD) (x y : Int) (w : World) (hl : ts.length ≤ 9223372036854775807) (h0 : errA n ts x y ≠ 0) (hs : TiesAt w a ts) :
    Calls Tryz.prog 29 #[gV n a ts.length cap, .int .i64 x, .int .i64 y] w fun e w' => e = .returned (.tuple #[.slice none 0 0, .bool false, .int .i64 (errA n ts x y)]) ∧ Below w.heap.size w w' := by
  have HW : Hid (∀ W, Below w.heap.size w W → Calls Tryz.prog 75 #[gV n a ts.length cap, .int .i64 x, .int .i64 y, .int .i64 0] W fun e w' => e = .returned (.tuple #[.slice none 0 0, .bool false, .int .i64 (errA n ts x y)]) ∧ Below W.heap.size W w') := fun W hb => walk_bad n a cap ts x y 0 W hl h0 (hs.below hb)
  generalize errA n ts x y = E at *
  generalize ts.length = m at *
  have HB0 : Hid (Below w.heap.size w (w.alloc (.cells #[.int .i64 n, .slice a m cap] 24))) := (Below.refl _ _).alloc (Nat.le_refl _) _
  clear h0 hs hl
  simp only [gV] at HW ⊢
  go_enter Tryz.func29, Tryz.ntmps29
  go_wp2_with (first | (go_at_call 75; refine (HW.out _ HB0.out).mono ?_; rintro e w1 ⟨rfl, hb⟩; have HB3 := Lib.hid (HB0.out.trans (hb.mono HB0.out.size)); clear hb))
  go_ret3
  exact ⟨rfl, HB3.out⟩
set_option maxRecDepth 100000 in
theorem why_any (n : Int) (a : Option Addr) (cap : Nat) (ts : List TieD) (x y : Int) (w : World) (h0 : errA n ts x y = 0) (hs : TiesAt w a ts) :
    Calls Tryz.prog 36 #[gV n a ts.length cap, .int .i64 x, .int .i64 y] w fun e w' => ∃ u v, e = .returned (.tuple #[u, .bool v, .int .i64 0]) ∧ WP ts 1 x y w.heap.size u v w' ∧ Below w.heap.size w w' := by
  have HW : Hid (∀ W, Below w.heap.size w W → Calls Tryz.prog 75 #[gV n a ts.length cap, .int .i64 x, .int .i64 y, .int .i64 1] W fun e w' => ∃ u v, e = .returned (.tuple #[u, .bool v, .int .i64 0]) ∧ WP ts 1 x y w.heap.size u v w' ∧ Below W.heap.size W w') := fun W hb => (walk_any n a cap ts x y 1 W (by omega) h0 (hs.below hb)).mono fun e w' ⟨u, v, h1, h2, h3⟩ => ⟨u, v, h1, h2.mono hb.size, h3⟩
  generalize ts.length = m at *
  have HB0 : Hid (Below w.heap.size w (w.alloc (.cells #[.int .i64 n, .slice a m cap] 24))) := (Below.refl _ _).alloc (Nat.le_refl _) _
  clear h0 hs
  simp only [gV] at HW ⊢
  go_enter Tryz.func36, Tryz.ntmps36
  go_wp2_with (first | (go_at_call 75; refine (HW.out _ HB0.out).mono ?_; rintro e w1 ⟨u, v, rfl, hwp, hb⟩; have HWP := Lib.hid hwp; have HB3 := Lib.hid (HB0.out.trans (hb.mono HB0.out.size)); clear hb hwp))
  go_ret3
  exact ⟨_, _, rfl, HWP.out, HB3.out⟩
set_option maxRecDepth 100000 in
theorem why_bad (n : Int) (a : Option Addr) (cap : Nat) (ts : List TieD) (x y : Int) (w : World) (hl : ts.length ≤ 9223372036854775807) (h0 : errA n ts x y ≠ 0) (hs : TiesAt w a ts) :
    Calls Tryz.prog 36 #[gV n a ts.length cap, .int .i64 x, .int .i64 y] w fun e w' => e = .returned (.tuple #[.slice none 0 0, .bool false, .int .i64 (errA n ts x y)]) ∧ Below w.heap.size w w' := by
  have HW : Hid (∀ W, Below w.heap.size w W → Calls Tryz.prog 75 #[gV n a ts.length cap, .int .i64 x, .int .i64 y, .int .i64 1] W fun e w' => e = .returned (.tuple #[.slice none 0 0, .bool false, .int .i64 (errA n ts x y)]) ∧ Below W.heap.size W w') := fun W hb => walk_bad n a cap ts x y 1 W hl h0 (hs.below hb)
  generalize errA n ts x y = E at *
  generalize ts.length = m at *
  have HB0 : Hid (Below w.heap.size w (w.alloc (.cells #[.int .i64 n, .slice a m cap] 24))) := (Below.refl _ _).alloc (Nat.le_refl _) _
  clear h0 hs hl
  simp only [gV] at HW ⊢
  go_enter Tryz.func36, Tryz.ntmps36
  go_wp2_with (first | (go_at_call 75; refine (HW.out _ HB0.out).mono ?_; rintro e w1 ⟨rfl, hb⟩; have HB3 := Lib.hid (HB0.out.trans (hb.mono HB0.out.size)); clear hb))
  go_ret3
  exact ⟨rfl, HB3.out⟩
end Go.Proofs.YthjeiaildabadaaGreat
