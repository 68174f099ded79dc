/- Layer 4: the law TiesMore. -/
import Derived.Test.YtklcbccfbiljjaaGreatMm
import Derived.Test.YtklcbccfbiljjaaGreatUk
namespace Go.Proofs.YtklcbccfbiljjaaGreat
set_option linter.unusedSimpArgs false
set_option linter.unusedVariables false
open Go Go.RowKit

theorem same_self (n : Int) (a b : Option Addr) (cap cap' : Nat) (ts : List TieD) (hl : ts.length ≤ 100000) (w : World) (hs : TiesAt w a ts) (ht : TiesAt w b ts) :
    Calls Tryz.prog 10 #[.agg #[.int .i64 n, .slice a ts.length cap], .agg #[.int .i64 n, .slice b ts.length cap']] w fun e w' => e = .returned (.bool true) ∧ Below w.heap.size w w' :=
  (rSameG_any n n a b cap cap' ts ts w hl hl hs ht).mono fun e w' ⟨he, hb⟩ => ⟨by rw [he]; simp [sameG], hb⟩
theorem eql_int_same (t : TypeId) (a : Int) (x y : Operand) (w : World) : (do eqGuard .eql t x y (.int .i64 a) (.int .i64 a); binOp .eql t (.int .i64 a) (.int .i64 a) : Sem Value).run Tryz.prog w = .ok (.bool true) w := eql_i64 t x y a a true (by simp) w
/-- A variable with a graph. -/
def GrA (W : World) (p : Nat) (n : Int) (a : Option Addr) (ts : List TieD) (c : Nat) : Prop := Blk W p [.int .i64 n, .slice a ts.length c] 24 ∧ TiesAt W a ts
theorem GrA.below {W W' : World} {p : Nat} {n : Int} {a : Option Addr} {ts : List TieD} {c : Nat} (h : GrA W p n a ts c) (hb : Below W.heap.size W W') : GrA W' p n a ts c := ⟨h.1.below hb, h.2.below hb⟩
theorem GrA.new (w : World) (n : Int) (a : Option Addr) (ts : List TieD) (c : Nat) (h : TiesAt w a ts) : GrA (w.alloc (.cells #[.int .i64 n, .slice a ts.length c] 24)) w.heap.size n a ts c :=
  ⟨Blk.new w _ _, h.below ((Below.refl _ _).alloc (Nat.le_refl _) _)⟩
def LB (w W : World) (g h : List Value) (t : TieD) : Prop := Blk W w.heap.size g 24 ∧ Blk W (w.heap.size + 1) h 24 ∧ Blk W (w.heap.size + 1 + 1) (tvC t) 26 ∧ Below w.heap.size w W
theorem LB.below {w W W' : World} {g h : List Value} {t : TieD} (k : LB w W g h t) (hb : Below W.heap.size W W') : LB w W' g h t := ⟨k.1.below hb, k.2.1.below hb, k.2.2.1.below hb, k.2.2.2.trans (hb.mono k.2.2.2.size)⟩
theorem LB.new (w : World) (n n' : Int) (a b : Option Addr) (m q cap cap' : Nat) (t : TieD) : LB w (((w.alloc (.cells #[.int .i64 n, .slice a m cap] 24)).alloc (.cells #[.int .i64 n', .slice b q cap'] 24)).alloc (.cells #[.int .i64 t.a, .int .i64 t.b, .int .i64 t.kind, .int .i64 t.str, .int .i64 t.src] 26)) [.int .i64 n, .slice a m cap] [.int .i64 n', .slice b q cap'] t := by
  have b1 := Blk.new w [.int .i64 n, .slice a m cap] 24
  have b2 := Blk.new (w.alloc (.cells #[.int .i64 n, .slice a m cap] 24)) [.int .i64 n', .slice b q cap'] 24
  have b3 := Blk.new ((w.alloc (.cells #[.int .i64 n, .slice a m cap] 24)).alloc (.cells #[.int .i64 n', .slice b q cap'] 24)) (tvC t) 26
  refine ⟨(b1.block (Below.heap_alloc _ _ _ (by simp))).block (Below.heap_alloc _ _ _ (by simp; omega)), ?_, ?_, (((Below.refl _ _).alloc (Nat.le_refl _) _).alloc (by simp) _).alloc (by simp; omega) _⟩
  · have := b2.block (Below.heap_alloc _ (.cells #[.int .i64 t.a, .int .i64 t.b, .int .i64 t.kind, .int .i64 t.str, .int .i64 t.src] 26) _ b2.lt)
    simpa using this
  · simpa [tvC] using b3
set_option maxRecDepth 100000 in
set_option maxHeartbeats 8000000 in
theorem tiesMore_no (n n' : Int) (a b : Option Addr) (cap cap' m q : Nat) (ts us : List TieD) (t : TieD) (x y : Int) (w : World) (hl : m = ts.length) (hl1 : m ≤ 9223372036854775807) (hl2 : q ≤ 9223372036854775807) (hs : TiesAt w a ts)
    (hno : 40 < m ∨ 40 < q ∨ errA n ts x y ≠ 0)
    (hsane : ∀ W, Calls Tryz.prog 5 #[] W fun e w' => e = .returned (.bool true) ∧ Below W.heap.size W w') :
    Calls Tryz.prog 3 #[gV n a m cap, gV n' b q cap', tieV t, .int .i64 x, .int .i64 y] w fun e w' => e = .returned (.bool true) ∧ Below w.heap.size w w' := by
  have HSA := Lib.hid hsane
  have HC : Hid (∀ W, Below w.heap.size w W → Calls Tryz.prog 6 #[gV n a m cap] W fun e w' => e = .returned (.int .i64 (errG n ts)) ∧ Below W.heap.size W w') := fun W hb => by rw [hl]; exact tCheck_any n a cap ts W (by rw [← hl]; exact hl1) (hs.below hb)
  have HN0 := Lib.hid (LB.new w n n' a b m q cap cap' t)
  have hcs : 40 < m ∨ (¬ 40 < m ∧ 40 < q) ∨ (¬ 40 < m ∧ ¬ 40 < q ∧ errG n ts = 40) ∨ (¬ 40 < m ∧ ¬ 40 < q ∧ errG n ts = 0 ∧ x < 0) ∨ (¬ 40 < m ∧ ¬ 40 < q ∧ errG n ts = 0 ∧ ¬ x < 0 ∧ y < 0) ∨ (¬ 40 < m ∧ ¬ 40 < q ∧ errG n ts = 0 ∧ ¬ x < 0 ∧ ¬ y < 0 ∧ n ≤ x) ∨ (¬ 40 < m ∧ ¬ 40 < q ∧ errG n ts = 0 ∧ ¬ x < 0 ∧ ¬ y < 0 ∧ ¬ n ≤ x ∧ n ≤ y) := by
    by_cases h1 : 40 < m
    · exact .inl h1
    by_cases h2 : 40 < q
    · exact .inr (.inl ⟨h1, h2⟩)
    have h3 : errA n ts x y ≠ 0 := hno.elim (fun h => absurd h h1) (fun h => h.elim (fun h => absurd h h2) id)
    unfold errA at h3
    unfold errG
    cases hok : okG n ts with
    | false => exact .inr (.inr (.inl ⟨h1, h2, rfl⟩))
    | true =>
      rw [hok] at h3
      simp only [if_true] at h3 ⊢
      unfold ftB at h3
      simp only [ne_eq, ite_eq_left_iff, Bool.not_eq_true, Classical.not_imp, Bool.and_eq_false_imp, Bool.and_eq_true, decide_eq_true_eq, decide_eq_false_iff_not] at h3
      have h4 := h3.1
      by_cases g1 : x < 0
      · exact .inr (.inr (.inr (.inl ⟨h1, h2, trivial, g1⟩)))
      by_cases g2 : y < 0
      · exact .inr (.inr (.inr (.inr (.inl ⟨h1, h2, trivial, g1, g2⟩))))
      by_cases g3 : n ≤ x
      · exact .inr (.inr (.inr (.inr (.inr (.inl ⟨h1, h2, trivial, g1, g2, g3⟩)))))
      by_cases g4 : n ≤ y
      · exact .inr (.inr (.inr (.inr (.inr (.inr ⟨h1, h2, trivial, g1, g2, g3, g4⟩)))))
      exact absurd ⟨⟨by omega, by omega⟩, by omega, by omega⟩ h4
  obtain ⟨ya, yb, yk, ys, yr⟩ := t
  simp only [gV, tieV] at HC HN0 ⊢
  clear hsane hl hs hno
  generalize errG n ts = E at *
  rcases hcs with h1 | ⟨h1, h2⟩ | ⟨h1, h2, rfl⟩ | ⟨h1, h2, rfl, h3⟩ | ⟨h1, h2, rfl, h3, h4⟩ | ⟨h1, h2, rfl, h3, h4, h5⟩ | ⟨h1, h2, rfl, h3, h4, h5, h6⟩
  · have t1 : decide ((40 : Int) < (m : Int)) = true := decide_eq_true (by omega)
    have t2 : decide (40 < m) = true := decide_eq_true h1
    clear hl1 hl2 h1
    go_enter Tryz.func3, Tryz.ntmps3
    go_wp2_with (first | (go_at_call 5; refine (HSA.out _).mono ?_; rintro e w0 ⟨rfl, hb⟩; clear HSA; have FB := Lib.hid (HN0.out.below hb); clear hb HN0; have c0 := FB.out.1.cell (i := 0) rfl; have c1 := FB.out.1.cell (i := 1) rfl; have d1 := FB.out.2.1.cell (i := 1) rfl))
    go_ret
    exact ⟨rfl, FB.out.2.2.2⟩
  · have t1 : decide ((40 : Int) < (m : Int)) = false := decide_eq_false (by omega)
    have t2 : decide (40 < m) = false := decide_eq_false h1
    have t3 : decide ((40 : Int) < (q : Int)) = true := decide_eq_true (by omega)
    have t4 : decide (40 < q) = true := decide_eq_true h2
    clear hl1 hl2 h1 h2
    go_enter Tryz.func3, Tryz.ntmps3
    go_wp2_with (first | (go_at_call 5; refine (HSA.out _).mono ?_; rintro e w0 ⟨rfl, hb⟩; clear HSA; have FB := Lib.hid (HN0.out.below hb); clear hb HN0; have c0 := FB.out.1.cell (i := 0) rfl; have c1 := FB.out.1.cell (i := 1) rfl; have d1 := FB.out.2.1.cell (i := 1) rfl))
    go_ret
    exact ⟨rfl, FB.out.2.2.2⟩
  · have t1 : decide ((40 : Int) < (m : Int)) = false := decide_eq_false (by omega)
    have t2 : decide (40 < m) = false := decide_eq_false h1
    have t3 : decide ((40 : Int) < (q : Int)) = false := decide_eq_false (by omega)
    have t4 : decide (40 < q) = false := decide_eq_false h2
    clear hl1 hl2 h1 h2
    go_enter Tryz.func3, Tryz.ntmps3
    go_wp2_with (first | (go_at_call 5; refine (HSA.out _).mono ?_; rintro e w0 ⟨rfl, hb⟩; clear HSA; have FB := Lib.hid (HN0.out.below hb); clear hb HN0; have c0 := FB.out.1.cell (i := 0) rfl; have c1 := FB.out.1.cell (i := 1) rfl; have d1 := FB.out.2.1.cell (i := 1) rfl) | (go_at_call 6; refine (HC.out _ FB.out.2.2.2).mono ?_; rintro e w3 ⟨rfl, hb⟩; clear HC c0 c1 d1; replace FB := Lib.hid (FB.out.below hb); clear hb; have c0 := FB.out.1.cell (i := 0) rfl; have c1 := FB.out.1.cell (i := 1) rfl))
    go_ret
    exact ⟨rfl, FB.out.2.2.2⟩
  · have t1 : decide ((40 : Int) < (m : Int)) = false := decide_eq_false (by omega)
    have t2 : decide (40 < m) = false := decide_eq_false h1
    have t3 : decide ((40 : Int) < (q : Int)) = false := decide_eq_false (by omega)
    have t4 : decide (40 < q) = false := decide_eq_false h2
    have t5 : decide (x < 0) = true := decide_eq_true h3
    clear hl1 hl2 h1 h2 h3
    go_enter Tryz.func3, Tryz.ntmps3
    go_wp2_with (first | (go_at_call 5; refine (HSA.out _).mono ?_; rintro e w0 ⟨rfl, hb⟩; clear HSA; have FB := Lib.hid (HN0.out.below hb); clear hb HN0; have c0 := FB.out.1.cell (i := 0) rfl; have c1 := FB.out.1.cell (i := 1) rfl; have d1 := FB.out.2.1.cell (i := 1) rfl) | (go_at_call 6; refine (HC.out _ FB.out.2.2.2).mono ?_; rintro e w3 ⟨rfl, hb⟩; clear HC c0 c1 d1; replace FB := Lib.hid (FB.out.below hb); clear hb; have c0 := FB.out.1.cell (i := 0) rfl; have c1 := FB.out.1.cell (i := 1) rfl))
    go_ret
    exact ⟨rfl, FB.out.2.2.2⟩
  · have t1 : decide ((40 : Int) < (m : Int)) = false := decide_eq_false (by omega)
    have t2 : decide (40 < m) = false := decide_eq_false h1
    have t3 : decide ((40 : Int) < (q : Int)) = false := decide_eq_false (by omega)
    have t4 : decide (40 < q) = false := decide_eq_false h2
    have t5 : decide (x < 0) = false := decide_eq_false h3
    have t6 : decide (y < 0) = true := decide_eq_true h4
    clear hl1 hl2 h1 h2 h3 h4
    go_enter Tryz.func3, Tryz.ntmps3
    go_wp2_with (first | (go_at_call 5; refine (HSA.out _).mono ?_; rintro e w0 ⟨rfl, hb⟩; clear HSA; have FB := Lib.hid (HN0.out.below hb); clear hb HN0; have c0 := FB.out.1.cell (i := 0) rfl; have c1 := FB.out.1.cell (i := 1) rfl; have d1 := FB.out.2.1.cell (i := 1) rfl) | (go_at_call 6; refine (HC.out _ FB.out.2.2.2).mono ?_; rintro e w3 ⟨rfl, hb⟩; clear HC c0 c1 d1; replace FB := Lib.hid (FB.out.below hb); clear hb; have c0 := FB.out.1.cell (i := 0) rfl; have c1 := FB.out.1.cell (i := 1) rfl))
    go_ret
    exact ⟨rfl, FB.out.2.2.2⟩
  · have t1 : decide ((40 : Int) < (m : Int)) = false := decide_eq_false (by omega)
    have t2 : decide (40 < m) = false := decide_eq_false h1
    have t3 : decide ((40 : Int) < (q : Int)) = false := decide_eq_false (by omega)
    have t4 : decide (40 < q) = false := decide_eq_false h2
    have t5 : decide (x < 0) = false := decide_eq_false h3
    have t6 : decide (y < 0) = false := decide_eq_false h4
    have t7 : decide (n ≤ x) = true := decide_eq_true h5
    clear hl1 hl2 h1 h2 h3 h4 h5
    go_enter Tryz.func3, Tryz.ntmps3
    go_wp2_with (first | (go_at_call 5; refine (HSA.out _).mono ?_; rintro e w0 ⟨rfl, hb⟩; clear HSA; have FB := Lib.hid (HN0.out.below hb); clear hb HN0; have c0 := FB.out.1.cell (i := 0) rfl; have c1 := FB.out.1.cell (i := 1) rfl; have d1 := FB.out.2.1.cell (i := 1) rfl) | (go_at_call 6; refine (HC.out _ FB.out.2.2.2).mono ?_; rintro e w3 ⟨rfl, hb⟩; clear HC c0 c1 d1; replace FB := Lib.hid (FB.out.below hb); clear hb; have c0 := FB.out.1.cell (i := 0) rfl; have c1 := FB.out.1.cell (i := 1) rfl))
    go_ret
    exact ⟨rfl, FB.out.2.2.2⟩
  · have t1 : decide ((40 : Int) < (m : Int)) = false := decide_eq_false (by omega)
    have t2 : decide (40 < m) = false := decide_eq_false h1
    have t3 : decide ((40 : Int) < (q : Int)) = false := decide_eq_false (by omega)
    have t4 : decide (40 < q) = false := decide_eq_false h2
    have t5 : decide (x < 0) = false := decide_eq_false h3
    have t6 : decide (y < 0) = false := decide_eq_false h4
    have t7 : decide (n ≤ x) = false := decide_eq_false h5
    have t8 : decide (n ≤ y) = true := decide_eq_true h6
    clear hl1 hl2 h1 h2 h3 h4 h5 h6
    go_enter Tryz.func3, Tryz.ntmps3
    go_wp2_with (first | (go_at_call 5; refine (HSA.out _).mono ?_; rintro e w0 ⟨rfl, hb⟩; clear HSA; have FB := Lib.hid (HN0.out.below hb); clear hb HN0; have c0 := FB.out.1.cell (i := 0) rfl; have c1 := FB.out.1.cell (i := 1) rfl; have d1 := FB.out.2.1.cell (i := 1) rfl) | (go_at_call 6; refine (HC.out _ FB.out.2.2.2).mono ?_; rintro e w3 ⟨rfl, hb⟩; clear HC c0 c1 d1; replace FB := Lib.hid (FB.out.below hb); clear hb; have c0 := FB.out.1.cell (i := 0) rfl; have c1 := FB.out.1.cell (i := 1) rfl))
    go_ret
    exact ⟨rfl, FB.out.2.2.2⟩
end Go.Proofs.YtklcbccfbiljjaaGreat
