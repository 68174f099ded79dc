/- Layer 6: Join of the program. -/
import Derived.Test.YteojbichibdhjacGreatDoorLi
namespace Go.Proofs.YteojbichibdhjacGreatDoor
set_option linter.unusedSimpArgs false
set_option linter.unusedVariables false
open Go Go.RowKit

def tvC (t : TieD) : List Value := [.int .i64 t.a, .int .i64 t.b, .int .i64 t.kind, .int .i64 t.str, .int .i64 t.src]
def tvL : List TieD → List Value
  | [] => []
  | t :: l => tvC t ++ tvL l
theorem tvL_len : ∀ l, (tvL l).length = l.length * 5
  | [] => rfl
  | t :: l => by simp [tvL, tvC, tvL_len l]; omega
theorem tvL_snoc : ∀ (l : List TieD) (t : TieD), tvL (l ++ [t]) = tvL l ++ tvC t
  | [], t => by simp [tvL]
  | d :: l, t => by simp [tvL, tvL_snoc l t]
theorem tvL_get : ∀ {l : List TieD} {i : Nat} {t : TieD}, l[i]? = some t → ∀ {j : Nat} {u : Value}, (tvC t)[j]? = some u → (tvL l)[i * 5 + j]? = some u
  | [], i, t, h, j, u, hu => by simp at h
  | d :: l, 0, t, h, j, u, hu => by
    simp at h; subst h
    have hj : j < (tvC d).length := (List.getElem?_eq_some_iff.1 hu).1
    rw [Nat.zero_mul, Nat.zero_add]
    unfold tvL
    rw [List.getElem?_append_left hj]; exact hu
  | d :: l, i + 1, t, h, j, u, hu => by
    have ih := tvL_get (l := l) (i := i) (t := t) (by simpa using h) hu
    have hl : (tvC d).length = 5 := rfl
    unfold tvL
    rw [List.getElem?_append_right (by omega), hl, show (i + 1) * 5 + j - 5 = i * 5 + j by omega]
    exact ih
theorem infoT : (Tryz.prog.info? 53).map (fun i => (i.zero, i.size, i.bytes)) = some (some (.agg #[.int .i64 0, .int .i64 0, .int .i64 0, .int .i64 0, .int .i64 0]), 5, 40) := by kernel_rfl
theorem own_ties {W : World} {base : Nat} {v : Value} {k : Nat} {l : List TieD} (h : W.ownsRow base 53 5 v k (tvL l)) : ∃ a cap, v = .slice a l.length cap ∧ k = l.length ∧ TiesAt W a l := by
  obtain ⟨hl, h⟩ := h
  rw [tvL_len] at hl
  have hl : k = l.length := by omega
  subst hl
  rcases h with ⟨rfl, h0⟩ | ⟨g, cap, cur, rfl, hg, hb, h1, h2, h3, h4⟩
  · exact ⟨none, 0, by rw [h0], rfl, .inl (List.length_eq_zero_iff.1 h0)⟩
  · have key : ∀ {j : Nat} {u : Value}, (tvL l)[j]? = some u → W.cell? ⟨g, j, none⟩ = some u := fun {j u} h5 => by
      rw [← h4, List.getElem?_take] at h5
      split at h5
      · simp only [World.cell?, hb]
        rw [← Array.getElem?_toList]; exact h5
      · cases h5
    refine ⟨some ⟨g, 0, none⟩, cap, rfl, rfl, .inr ⟨g, 0, rfl, (Array.getElem?_eq_some_iff.1 hb).1, fun i t hi => ?_⟩⟩
    rw [Nat.zero_add]
    exact ⟨key (tvL_get hi (j := 0) rfl), key (tvL_get hi (j := 1) rfl), key (tvL_get hi (j := 2) rfl), key (tvL_get hi (j := 3) rfl), key (tvL_get hi (j := 4) rfl)⟩
set_option maxRecDepth 100000 in
theorem further_any (x y kd : Int) (w : World) :
    Calls Tryz.prog 25 #[.int .i64 x, .int .i64 y, .int .i64 kd] w fun e w' => e = .returned (tieV ⟨x, y, kd, 1, 0⟩) ∧ Below w.heap.size w w' := by
  go_enter Tryz.func25, Tryz.ntmps25
  go_wp2_with fail
  refine named (fun V => TieAt V w.heap.size ⟨x, y, kd, 1, 0⟩ ∧ Below w.heap.size w V) ⟨TieAt.new w ⟨x, y, kd, 1, 0⟩ _, (Below.refl _ _).alloc (Nat.le_refl _) _⟩ ?_
  rintro V ⟨⟨_, e0, e1, e2, e3, e4⟩, V2⟩
  simp only at e0 e1 e2 e3 e4
  refine bodyPost_ret (v := tieV ⟨x, y, kd, 1, 0⟩) (by simp [results, Tryz.results25, go_sem, e0, e1, e2, e3, e4, tieV]) rfl ?_
  exact ⟨rfl, V2⟩
/-- A new slice of one tie. -/
def tieW (t : TieD) : Word := fun v w => ∃ b, v = .slice (some ⟨b, 0, none⟩) 1 1 ∧ TieAt w b t
theorem tieW_lasts {w0 : World} (t : TieD) : lasts (clOld w0) (tieW t) := fun v w w' _ hR ⟨b, hv, h⟩ => ⟨b, hv, h.below hR⟩
theorem tieW_new {w0 w : World} {t : TieD} {ρ : Operand → Value} {o : Oper} (h : (execOp ρ o).run Tryz.prog w = .ok (.value (.slice (some ⟨w.heap.size, 0, none⟩) 1 1)) (w.alloc (.cells #[.int .i64 t.a, .int .i64 t.b, .int .i64 t.kind, .int .i64 t.str, .int .i64 t.src] 53))) (hC : (clOld w0).C w) :
    ∃ u w', (execOp ρ o).run Tryz.prog w = .ok (.value u) w' ∧ (clOld w0).R w w' ∧ tieW t u w' :=
  ⟨_, _, h, (Below.refl _ _).alloc (Nat.le_refl _) _, _, rfl, TieAt.new w t _⟩
theorem tie_cells {w : World} {b : Nat} {t : TieD} (h : TieAt w b t) : ∀ (j : Nat) (u : Value), (tvC t)[j]? = some u → w.cell? ((⟨b, 0, none⟩ : Addr).add j) = some u := fun j u hj => by
  rw [addr_plain, Nat.zero_add]
  match j, hj with
  | 0, hj => have e : some (Value.int .i64 t.a) = some u := hj; rw [← e]; exact h.c0
  | 1, hj => have e : some (Value.int .i64 t.b) = some u := hj; rw [← e]; exact h.c1
  | 2, hj => have e : some (Value.int .i64 t.kind) = some u := hj; rw [← e]; exact h.c2
  | 3, hj => have e : some (Value.int .i64 t.str) = some u := hj; rw [← e]; exact h.c3
  | 4, hj => have e : some (Value.int .i64 t.src) = some u := hj; rw [← e]; exact h.c4
/-- The ties so far: in a row of their own, which the graph holds. -/
structure JS (w : World) (B b7 b26 n : Nat) (s1 s2 : Value) (ts : List TieD) (W : World) : Prop where
  own : ∃ tv, W.ownsRow B 53 5 tv ts.length (tvL ts) ∧ Blk W b7 [.int .i64 n, tv] 32
  lst : Blk W b26 [s1, s2] 22
  old : Below w.heap.size w W
theorem JS.below {w W W' : World} {B b7 b26 n : Nat} {s1 s2 : Value} {ts : List TieD} (h : JS w B b7 b26 n s1 s2 ts W) (hb : Below W.heap.size W W') : JS w B b7 b26 n s1 s2 ts W' := by
  obtain ⟨tv, h1, h2⟩ := h.own
  exact ⟨⟨tv, own_below h1 hb, h2.below hb⟩, h.lst.below hb, h.old.trans (hb.mono h.old.size)⟩
/-- The ties of both. -/
def tsJ (la lb : List Int) (n : Nat) : Nat → List TieD
  | 0 => []
  | 1 => jT la n
  | _ => jT la n ++ jT lb n
theorem tsJ_ok {la lb : List Int} {n : Nat} (j : Nat) : ∀ t ∈ tsJ la lb n j, tieB t n = true := fun t ht => by
  match j, ht with
  | 0, ht => cases ht
  | 1, ht => exact jT_ok (Nat.le_refl _) t ht
  | j + 2, ht =>
    rcases List.mem_append.1 (show t ∈ jT la n ++ jT lb n from ht) with h | h
    · exact jT_ok (Nat.le_refl _) t h
    · exact jT_ok (Nat.le_refl _) t h
theorem jT_step {l : List Int} {k : Nat} {x : Int} (hx : l[k]? = some x) : (ixI l x < k → jT l (k + 1) = jT l k ++ [⟨ixI l x, k, 2, 1, 0⟩]) ∧ (¬ ixI l x < k → jT l (k + 1) = jT l k) := by
  have e : jT l (k + 1) = jT l k ++ jT1 l k := rfl
  have e1 : jT1 l k = if ixI l x < k then [⟨ixI l x, k, 2, 1, 0⟩] else [] := by unfold jT1; rw [hx]
  refine ⟨fun h => by rw [e, e1, if_pos h], fun h => by rw [e, e1, if_neg h, List.append_nil]⟩
def joinR (la lb : List Int) : List Int := if errB la lb = 0 then intN (nrmP (grpL la.length (jT la la.length ++ jT lb la.length))).2 else []
end Go.Proofs.YteojbichibdhjacGreatDoor
