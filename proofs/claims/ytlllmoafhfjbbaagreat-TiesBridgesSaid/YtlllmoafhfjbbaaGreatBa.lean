/- Layer 4: ways over ties. -/
import Derived.Test.YtlllmoafhfjbbaaGreatMm
namespace Go.Proofs.YtlllmoafhfjbbaaGreat
set_option linter.unusedSimpArgs false
set_option linter.unusedVariables false
open Go Go.RowKit

/-- The node of a tie other than the given one. -/
def othF (t : TieD) (x : Int) : Int × Bool := if x == t.a then (t.b, true) else if x == t.b then (t.a, true) else (0, false)
def cutI (t : TieD) : Int := if t.kind == 1 then 1 else 0
theorem cutI_le (t : TieD) : 0 ≤ cutI t ∧ cutI t ≤ 1 := by unfold cutI; split <;> omega
def wayV (t : TieD) : Value := .agg #[.func (.func 89) #[tieV t] #[], .int .i64 (cutI t)]
set_option maxRecDepth 100000 in
theorem other_any (t : TieD) (x : Int) (w : World) :
    Calls Tryz.prog 89 #[tieV t, .int .i64 x] w fun e w' => e = .returned (.tuple #[.int .i64 (othF t x).1, .bool (othF t x).2]) ∧ Below w.heap.size w w' := by
  unfold othF
  obtain ⟨ya, yb, yk, ys, yr⟩ := t
  simp only
  cases h1 : (x == ya) with
  | true =>
    simp only [if_true]
    go_enter Tryz.func89, Tryz.ntmps89
    simp only [tieV]
    go_wp2_with fail
    refine bodyPost_ret (v := .tuple #[.int .i64 yb, .bool true]) (by simp [results, Tryz.results89, go_sem]) rfl ?_
    exact ⟨rfl, (Below.refl _ _).alloc (Nat.le_refl _) _⟩
  | false =>
    cases h2 : (x == yb) with
    | true =>
      simp only [if_true, Bool.false_eq_true, if_false]
      go_enter Tryz.func89, Tryz.ntmps89
      simp only [tieV]
      go_wp2_with fail
      refine bodyPost_ret (v := .tuple #[.int .i64 ya, .bool true]) (by simp [results, Tryz.results89, go_sem]) rfl ?_
      exact ⟨rfl, (Below.refl _ _).alloc (Nat.le_refl _) _⟩
    | false =>
      simp only [Bool.false_eq_true, if_false]
      go_enter Tryz.func89, Tryz.ntmps89
      simp only [tieV]
      go_wp2_with fail
      refine bodyPost_ret (v := .tuple #[.int .i64 0, .bool false]) (by simp [results, Tryz.results89, go_sem]) rfl ?_
      exact ⟨rfl, (Below.refl _ _).alloc (Nat.le_refl _) _⟩
/-- Three new variables. -/
def B3 (w W : World) (x : List Value) (t : TypeId) (y : List Value) (t' : TypeId) (z : List Value) (t'' : TypeId) : Prop := Blk W w.heap.size x t ∧ Blk W (w.heap.size + 1) y t' ∧ Blk W (w.heap.size + 1 + 1) z t'' ∧ Below w.heap.size w W
theorem B3.below {w W W' : World} {x y z : List Value} {t t' t'' : TypeId} (k : B3 w W x t y t' z t'') (hb : Below W.heap.size W W') : B3 w W' x t y t' z t'' := ⟨k.1.below hb, k.2.1.below hb, k.2.2.1.below hb, k.2.2.2.trans (hb.mono k.2.2.2.size)⟩
theorem B3.new (w : World) (x y z : List Value) (t t' t'' : TypeId) : B3 w (((w.alloc (.cells x.toArray t)).alloc (.cells y.toArray t')).alloc (.cells z.toArray t'')) x t y t' z t'' := by
  have b1 := Blk.new w x t
  have b2 := Blk.new (w.alloc (.cells x.toArray t)) y t'
  have b3 := Blk.new ((w.alloc (.cells x.toArray t)).alloc (.cells y.toArray t')) z t''
  refine ⟨(b1.block (Below.heap_alloc _ _ _ (by simp))).block (Below.heap_alloc _ _ _ (by simp; omega)), ?_, ?_, (((Below.refl _ _).alloc (Nat.le_refl _) _).alloc (by simp) _).alloc (by simp; omega) _⟩
  · have := b2.block (Below.heap_alloc _ (.cells z.toArray t'') _ b2.lt)
    simpa using this
  · simpa using b3
set_option maxRecDepth 100000 in
theorem next_any (t : TieD) (c p k : Int) (w : World) (hc : 0 ≤ c ∧ c ≤ 1) (hk : 0 ≤ k ∧ k ≤ 100000) :
    Calls Tryz.prog 66 #[.agg #[.func (.func 89) #[tieV t] #[], .int .i64 c], .agg #[.int .i64 p, .int .i64 k]] w fun e w' => e = .returned (.tuple #[.agg #[.int .i64 (othF t p).1, .int .i64 (k + c)], .bool (othF t p).2]) ∧ Below w.heap.size w w' := by
  have HO : Hid (∀ W, Calls Tryz.prog 89 #[tieV t, .int .i64 p] W fun e w' => e = .returned (.tuple #[.int .i64 (othF t p).1, .bool (othF t p).2]) ∧ Below W.heap.size W w') := fun W => other_any t p W
  have hw : wrap64 (k + c) = k + c := by unfold wrap64; omega
  have HN0 := Lib.hid (B3.new w [.func (.func 89) #[tieV t] #[], .int .i64 c] [.int .i64 p, .int .i64 k] [.int .i64 0, .int .i64 0] 101 90 90)
  generalize (othF t p).1 = r at *
  generalize (othF t p).2 = v at *
  generalize tieV t = T at *
  clear hc hk
  go_enter Tryz.func66, Tryz.ntmps66
  go_wp2_with (first | (go_at_call 89; refine (HO.out _).mono ?_; rintro e w1 ⟨rfl, hb⟩; have HY := Lib.hid (HN0.out.below hb); clear hb HN0 HO; have c1 := HY.out.1.cell (i := 1) rfl; have p1 := HY.out.2.1.cell (i := 1) rfl; have d0 := HY.out.2.2.1.cell (i := 0) rfl; have d1 := HY.out.2.2.1.cell (i := 1) rfl; have f0 := HY.out.2.2.1.frozen 0; have f1 := HY.out.2.2.1.frozen 1))
  refine named (fun V => Blk V (w.heap.size + 1 + 1) [.int .i64 r, .int .i64 (k + c)] 90 ∧ Below w.heap.size w V) ⟨(HY.out.2.2.1.set_ 0 _).set_ 1 _, (HY.out.2.2.2.setCell (by show w.heap.size ≤ w.heap.size + 1 + 1; omega) _).setCell (by show w.heap.size ≤ w.heap.size + 1 + 1; omega) _⟩ ?_
  rintro V ⟨V1, V3⟩
  have e0 := V1.cell (i := 0) rfl
  have e1 := V1.cell (i := 1) rfl
  refine bodyPost_ret (v := .tuple #[.agg #[.int .i64 r, .int .i64 (k + c)], .bool v]) (by simp [results, Tryz.results66, go_sem, e0, e1]) rfl ?_
  exact ⟨rfl, V3⟩
end Go.Proofs.YtlllmoafhfjbbaaGreat
