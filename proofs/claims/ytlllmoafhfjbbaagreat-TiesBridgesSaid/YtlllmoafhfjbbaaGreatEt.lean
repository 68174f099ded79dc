/- Layer 4: the specification's Add, over kept. -/
import Derived.Test.YtlllmoafhfjbbaaGreatEs
namespace Go.Proofs.YtlllmoafhfjbbaaGreat
set_option linter.unusedSimpArgs false
set_option linter.unusedVariables false
open Go Go.RowKit

/-- A call of which one argument is known by a word, and whose result is known by a word. -/
theorem chain_call_use_re {P : Program} {ops : Array Oper} {C : Cl} {L : List Value} {K : Env → Prop} {o : Oper} {rest : List Oper} {E : Env} {d : Nat} (q2 : Word) (hq2 : lasts C q2) (k : Nat) (q : Word) (f : FuncId) (vs : Value → List Value) (xs : List Operand) (c : Call) (hf : Enters P f) (hd : o.dst = some d) (ho : o.op = .call c) (hc : c.callee = .value (.func f)) (hw : wantB ops o E L = true)
    (hq : lk E k = some (.re q)) (hl : (o.looksAt ops).contains k = true) (he : ∀ x, exB ops o ((k, .ex x) :: E) = true)
    (hxs : c.args = xs.toArray) (ha : ∀ x, xs.map (evE ((k, .ex x) :: E) L) = vs x) (h : ∀ x w, C.C w → q x w → Calls P f (vs x).toArray w fun e w' => ∃ u, e = .returned u ∧ C.R w w' ∧ q2 u w') (hk : chain P ops C L rest ((d, .re q2) :: E) K) : chain P ops C L (o :: rest) E K :=
  ⟨d, .re q2, hd, hq2, obl_re k q (fun cs b e => by rw [ho] at e; cases e) hw hq hl he fun x w hC hx => by
    rw [run_enter ho hc rfl hf, hxs, List.map_toArray, ha]
    exact h x w hC hx, hk⟩
def zvG : Value := .agg #[.int .i64 0, .slice none 0 0]
theorem zero_g : ∀ w, (zeroValue 24).run Tryz.prog w = .ok zvG w := fun w => by simp [go_sem, zvG]
def kptW (B : Nat) (n : Int) (m : Nat) (xs : List Value) : Word := fun u w => ∃ v, u = .agg #[.int .i64 n, v] ∧ w.ownsRow B 33 5 v m xs
theorem kptW_lasts {w0 : World} (B : Nat) (n : Int) (m : Nat) (xs : List Value) : lasts (clOld w0) (kptW B n m xs) := fun v w w' _ hR ⟨g, hv, h⟩ => ⟨g, hv, own_below h hR⟩
theorem own_mono {W : World} {B B' : Nat} {e : TypeId} {size : Nat} {v : Value} {n : Nat} {xs : List Value} (h : W.ownsRow B e size v n xs) (hb : B' ≤ B) : W.ownsRow B' e size v n xs :=
  ⟨h.1, h.2.imp id fun ⟨g, cap, cur, h1, h2, h3⟩ => ⟨g, cap, cur, h1, Nat.le_trans hb h2, h3⟩⟩
theorem own_ne {W : World} {B q n : Nat} {v : Value} {xs ys : List Value} (h : W.ownsRow B 33 5 v n xs) (hq : Blk W q ys 24) : v.ownBlock ≠ some q := fun e => by
  rcases h.2 with ⟨rfl, _⟩ | ⟨g, cap, cur, rfl, _, h3, _⟩
  · cases e
  · have e2 : g = q := by simpa [Value.ownBlock] using e
    subst e2
    unfold Blk at hq
    rw [hq] at h3
    injection h3 with h3
    injection h3 with _ h3
    exact absurd h3 (by decide)
theorem own_only {W W' : World} {B q n : Nat} {v : Value} {xs ys : List Value} (h : W.ownsRow B 33 5 v n xs) (hq : Blk W q ys 24) (ho : Only q W W') : W'.ownsRow B 33 5 v n xs := by
  have hne := own_ne h hq
  refine ⟨h.1, h.2.imp id fun ⟨g, cap, cur, h1, h2, h3, h4⟩ => ⟨g, cap, cur, h1, h2, (ho.1 g (Array.getElem?_eq_some_iff.1 h3).1 ?_).trans h3, h4⟩⟩
  rintro rfl
  rw [h1] at hne
  exact hne (by simp [Value.ownBlock])
def KA (w W : World) (g : List Value) (t : TieD) : Prop := Blk W w.heap.size g 24 ∧ Blk W (w.heap.size + 1) (tvC t) 33 ∧ Blk W (w.heap.size + 1 + 1) [.int .i64 0, .slice none 0 0] 24 ∧ Below w.heap.size w W
theorem KA.below {w W W' : World} {g : List Value} {t : TieD} (k : KA w W g t) (hb : Below W.heap.size W W') : KA w W' g t := ⟨k.1.below hb, k.2.1.below hb, k.2.2.1.below hb, k.2.2.2.trans (hb.mono k.2.2.2.size)⟩
theorem KA.new (w : World) (n : Int) (a : Option Addr) (m cap : Nat) (t : TieD) : KA w (((w.alloc (.cells #[.int .i64 n, .slice a m cap] 24)).alloc (.cells #[.int .i64 t.a, .int .i64 t.b, .int .i64 t.kind, .int .i64 t.str, .int .i64 t.src] 33)).alloc (.cells #[.int .i64 0, .slice none 0 0] 24)) [.int .i64 n, .slice a m cap] t := by
  have b1 := Blk.new w [.int .i64 n, .slice a m cap] 24
  have b2 := Blk.new (w.alloc (.cells #[.int .i64 n, .slice a m cap] 24)) (tvC t) 33
  have b3 := Blk.new ((w.alloc (.cells #[.int .i64 n, .slice a m cap] 24)).alloc (.cells #[.int .i64 t.a, .int .i64 t.b, .int .i64 t.kind, .int .i64 t.str, .int .i64 t.src] 33)) [.int .i64 0, .slice none 0 0] 24
  refine ⟨(b1.block (Below.heap_alloc _ _ _ (by simp))).block (Below.heap_alloc _ _ _ (by simp; omega)), ?_, ?_, (((Below.refl _ _).alloc (Nat.le_refl _) _).alloc (by simp) _).alloc (by simp; omega) _⟩
  · have := b2.block (Below.heap_alloc _ (.cells #[.int .i64 0, .slice none 0 0] 24) _ b2.lt)
    simpa [tvC] using this
  · simpa using b3
def addR (n : Int) (ts : List TieD) (t : TieD) : GR := if okG n ts then (if tieB t n then (if ts.length = 512 then ⟨0, [], 2⟩ else ⟨n, ts ++ [t], 0⟩) else ⟨0, [], 1⟩) else ⟨0, [], 40⟩
end Go.Proofs.YtlllmoafhfjbbaaGreat
