/- Layer 4: lists of ties in rows of their own. -/
import Derived.Test.YtlllmoafhfjbbaaGreatUd
namespace Go.Proofs.YtlllmoafhfjbbaaGreat
set_option linter.unusedSimpArgs false
set_option linter.unusedVariables false
open Go Go.RowKit

theorem own_below {W W' : World} {base : Nat} {e : TypeId} {size : Nat} {v : Value} {n : Nat} {xs : List Value} (h : W.ownsRow base e size v n xs) (hb : Below W.heap.size W W') : W'.ownsRow base e size v n xs :=
  ⟨h.1, h.2.imp id fun ⟨g, cap, cur, h1, h2, h3, h4⟩ => ⟨g, cap, cur, h1, h2, (hb.block g (Array.getElem?_eq_some_iff.1 h3).1).trans h3, h4⟩⟩
theorem addr_plain (b o n : Nat) : (⟨b, o, none⟩ : Addr).add n = ⟨b, o + n, none⟩ := by unfold Addr.add; split <;> simp_all
def tvC (t : TieD) : List Value := [.int .i64 t.a, .int .i64 t.b, .int .i64 t.kind, .int .i64 t.str, .int .i64 t.src]
def tvL : List TieD → List Value
  | [] => []
  | t :: l => tvC t ++ tvL l
theorem tvL_len : ∀ l, (tvL l).length = l.length * 5
  | [] => rfl
  | t :: l => by simp [tvL, tvC, tvL_len l]; omega
theorem tvL_snoc : ∀ (l : List TieD) (t : TieD), tvL (l ++ [t]) = tvL l ++ tvC t
  | [], t => by simp [tvL]
  | d :: l, t => by simp [tvL, tvL_snoc l t]
theorem tvL_get : ∀ {l : List TieD} {i : Nat} {t : TieD}, l[i]? = some t → ∀ {j : Nat} {u : Value}, (tvC t)[j]? = some u → (tvL l)[i * 5 + j]? = some u
  | [], i, t, h, j, u, hu => by simp at h
  | d :: l, 0, t, h, j, u, hu => by
    simp at h; subst h
    have hj : j < (tvC d).length := (List.getElem?_eq_some_iff.1 hu).1
    rw [Nat.zero_mul, Nat.zero_add]
    unfold tvL
    rw [List.getElem?_append_left hj]; exact hu
  | d :: l, i + 1, t, h, j, u, hu => by
    have ih := tvL_get (l := l) (i := i) (t := t) (by simpa using h) hu
    have hl : (tvC d).length = 5 := rfl
    unfold tvL
    rw [List.getElem?_append_right (by omega), hl, show (i + 1) * 5 + j - 5 = i * 5 + j by omega]
    exact ih
theorem infoT : (Tryz.prog.info? 33).map (fun i => (i.zero, i.size, i.bytes)) = some (some (.agg #[.int .i64 0, .int .i64 0, .int .i64 0, .int .i64 0, .int .i64 0]), 5, 40) := by kernel_rfl
theorem own_ties {W : World} {base : Nat} {v : Value} {k : Nat} {l : List TieD} (h : W.ownsRow base 33 5 v k (tvL l)) : ∃ a cap, v = .slice a l.length cap ∧ k = l.length ∧ TiesAt W a l := by
  obtain ⟨hl, h⟩ := h
  rw [tvL_len] at hl
  have hl : k = l.length := by omega
  subst hl
  rcases h with ⟨rfl, h0⟩ | ⟨g, cap, cur, rfl, hg, hb, h1, h2, h3, h4⟩
  · exact ⟨none, 0, by rw [h0], rfl, .inl (List.length_eq_zero_iff.1 h0)⟩
  · have key : ∀ {j : Nat} {u : Value}, (tvL l)[j]? = some u → W.cell? ⟨g, j, none⟩ = some u := fun {j u} h5 => by
      rw [← h4, List.getElem?_take] at h5
      split at h5
      · simp only [World.cell?, hb]
        rw [← Array.getElem?_toList]; exact h5
      · cases h5
    refine ⟨some ⟨g, 0, none⟩, cap, rfl, rfl, .inr ⟨g, 0, rfl, (Array.getElem?_eq_some_iff.1 hb).1, fun i t hi => ?_⟩⟩
    rw [Nat.zero_add]
    exact ⟨key (tvL_get hi (j := 0) rfl), key (tvL_get hi (j := 1) rfl), key (tvL_get hi (j := 2) rfl), key (tvL_get hi (j := 3) rfl), key (tvL_get hi (j := 4) rfl)⟩
/-- A new slice of one tie. -/
def tieW (t : TieD) : Word := fun v w => ∃ b, v = .slice (some ⟨b, 0, none⟩) 1 1 ∧ TieAt w b t
theorem tieW_lasts {w0 : World} (t : TieD) : lasts (clOld w0) (tieW t) := fun v w w' _ hR ⟨b, hv, h⟩ => ⟨b, hv, h.below hR⟩
theorem tieW_new {w0 w : World} {t : TieD} {ρ : Operand → Value} {o : Oper} (h : (execOp ρ o).run Tryz.prog w = .ok (.value (.slice (some ⟨w.heap.size, 0, none⟩) 1 1)) (w.alloc (.cells #[.int .i64 t.a, .int .i64 t.b, .int .i64 t.kind, .int .i64 t.str, .int .i64 t.src] 33))) (hC : (clOld w0).C w) :
    ∃ u w', (execOp ρ o).run Tryz.prog w = .ok (.value u) w' ∧ (clOld w0).R w w' ∧ tieW t u w' :=
  ⟨_, _, h, (Below.refl _ _).alloc (Nat.le_refl _) _, _, rfl, TieAt.new w t _⟩
theorem tie_cells {w : World} {b : Nat} {t : TieD} (h : TieAt w b t) : ∀ (j : Nat) (u : Value), (tvC t)[j]? = some u → w.cell? ((⟨b, 0, none⟩ : Addr).add j) = some u := fun j u hj => by
  rw [addr_plain, Nat.zero_add]
  match j, hj with
  | 0, hj => have e : some (Value.int .i64 t.a) = some u := hj; rw [← e]; exact h.c0
  | 1, hj => have e : some (Value.int .i64 t.b) = some u := hj; rw [← e]; exact h.c1
  | 2, hj => have e : some (Value.int .i64 t.kind) = some u := hj; rw [← e]; exact h.c2
  | 3, hj => have e : some (Value.int .i64 t.str) = some u := hj; rw [← e]; exact h.c3
  | 4, hj => have e : some (Value.int .i64 t.src) = some u := hj; rw [← e]; exact h.c4
theorem own_slice {W : World} {base : Nat} {e : TypeId} {size : Nat} {v : Value} {n : Nat} {xs : List Value} (h : W.ownsRow base e size v n xs) : ∃ a cap, v = .slice a n cap := by
  rcases h.2 with ⟨rfl, rfl⟩ | ⟨g, cap, cur, rfl, _⟩
  · exact ⟨_, _, rfl⟩
  · exact ⟨_, _, rfl⟩
theorem load_slq {w : World} {b o : Nat} {a : Option Addr} {len cap : Nat} (h : w.cell? ⟨b, o, none⟩ = some (.slice a len cap)) : (Instr.loadAt 22 (.pointer (some ⟨b, o, none⟩))).run Tryz.prog w = .ok (.slice a len cap) w := by
  simp [go_sem, Instr.loadAt, h]
/-- The graph that a walk builds: its ties in a row of their own, which a block holds. -/
structure HGr (w : World) (B b5 : Nat) (n : Int) (ts : List TieD) (W : World) : Prop where
  own : ∃ tv, W.ownsRow B 33 5 tv ts.length (tvL ts) ∧ Blk W b5 [.int .i64 n, tv] 24
  old : Below w.heap.size w W
theorem HGr.below {w W W' : World} {B b5 : Nat} {n : Int} {ts : List TieD} (h : HGr w B b5 n ts W) (hb : Below W.heap.size W W') : HGr w B b5 n ts W' := by
  obtain ⟨tv, h1, h2⟩ := h.own
  exact ⟨⟨tv, own_below h1 hb, h2.below hb⟩, h.old.trans (hb.mono h.old.size)⟩
/-- The cells of a slice of ties, in a new block. -/
def TiesNew (B : Nat) (w : World) (a : Option Addr) (ts : List TieD) : Prop := TiesAt w a ts ∧ (ts = [] ∨ ∃ b o, a = some ⟨b, o, none⟩ ∧ B ≤ b)
theorem TiesNew.nil (B : Nat) (w : World) (a : Option Addr) : TiesNew B w a [] := ⟨.inl rfl, .inl rfl⟩
theorem TiesNew.below {B : Nat} {w w' : World} {a : Option Addr} {ts : List TieD} (h : TiesNew B w a ts) (hb : Below w.heap.size w w') : TiesNew B w' a ts := ⟨h.1.below hb, h.2⟩
theorem TiesNew.mono {B B' : Nat} {w : World} {a : Option Addr} {ts : List TieD} (h : TiesNew B w a ts) (hb : B' ≤ B) : TiesNew B' w a ts :=
  ⟨h.1, h.2.imp id fun ⟨b, o, h1, h2⟩ => ⟨b, o, h1, Nat.le_trans hb h2⟩⟩
theorem TiesNew.only {B g : Nat} {w w' : World} {a : Option Addr} {ts : List TieD} (h : TiesNew B w a ts) (ho : Only g w w') (hg : g < B) : TiesNew B w' a ts := by
  refine ⟨?_, h.2⟩
  rcases h.2 with h2 | ⟨b, o, rfl, h2⟩
  · exact .inl h2
  · rcases h.1 with h1 | ⟨b', o', e, hlt, h1⟩
    · exact .inl h1
    · simp only [Option.some.injEq, Addr.mk.injEq, and_true] at e
      obtain ⟨rfl, rfl⟩ := e
      have eq : ∀ o, w'.cell? ⟨b, o, none⟩ = w.cell? ⟨b, o, none⟩ := fun o => by simp only [World.cell?, ho.1 b hlt (by omega)]
      refine .inr ⟨b, o, rfl, Nat.lt_of_lt_of_le hlt ho.2, fun i t hi => ?_⟩
      obtain ⟨c0, c1, c2, c3, c4⟩ := h1 i t hi
      exact ⟨by rw [eq]; exact c0, by rw [eq]; exact c1, by rw [eq]; exact c2, by rw [eq]; exact c3, by rw [eq]; exact c4⟩
theorem own_tiesN {W : World} {base : Nat} {v : Value} {k : Nat} {l : List TieD} (h : W.ownsRow base 33 5 v k (tvL l)) : ∃ a cap, v = .slice a l.length cap ∧ k = l.length ∧ TiesNew base W a l := by
  obtain ⟨a, cap, rfl, hk, hT⟩ := own_ties h
  refine ⟨a, cap, rfl, hk, hT, ?_⟩
  obtain ⟨hl, hh⟩ := h
  rcases hh with ⟨e, h0⟩ | ⟨g, cap', cur, e, hg, _⟩
  · exact .inl (List.length_eq_zero_iff.1 (by omega))
  · injection e with e1
    exact .inr ⟨g, 0, e1, hg⟩
/-- What a function that returns a graph and an error leaves. -/
def GRes (n : Int) (ts : List TieD) (er : Int) (w : World) : Ending → World → Prop := fun e w' => ∃ a c, e = .returned (.tuple #[gV n a ts.length c, .int .i64 er]) ∧ TiesNew w.heap.size w' a ts ∧ Below w.heap.size w w'
/-- What a function that returns a graph leaves. -/
def GRet (n : Int) (ts : List TieD) (w : World) : Ending → World → Prop := fun e w' => ∃ a c, e = .returned (gV n a ts.length c) ∧ TiesNew w.heap.size w' a ts ∧ Below w.heap.size w w'
end Go.Proofs.YtlllmoafhfjbbaaGreat
