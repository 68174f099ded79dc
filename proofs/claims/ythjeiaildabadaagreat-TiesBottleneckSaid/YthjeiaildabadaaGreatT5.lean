/- Layer 4: what the law TiesBottleneck wants of Widest (mathematics). -/
import Derived.Test.YthjeiaildabadaaGreatT3
import Derived.Test.YthjeiaildabadaaGreatT4
import Derived.Test.YthjeiaildabadaaGreatKe
namespace Go.Proofs.YthjeiaildabadaaGreat
set_option linter.unusedSimpArgs false
set_option linter.unusedVariables false
open Go Go.RowKit

def WdR (k : Nat) (ts : List TieD) (p z : Nat) (W : Int) (B : Bool) : Prop := (p = z ∧ W = 101 ∧ B = true) ∨ (p ≠ z ∧ samB k ts p z = false ∧ W = 0 ∧ B = false) ∨ (p ≠ z ∧ 1 ≤ W ∧ W ≤ 100 ∧ samB k (stF ts W) p z = true ∧ samB k (stF ts (W + 1)) p z = false ∧ B = true)
theorem WdA.rel {k : Nat} {ts : List TieD} {p z : Nat} {e : Ending} (h : WdA k ts p z e) : ∃ W B, e = .returned (.tuple #[.int .i64 W, .bool B, .int .i64 0]) ∧ WdR k ts p z W B := by
  rcases h with ⟨h1, h2⟩ | ⟨h1, h2, h3⟩ | ⟨h1, W, h2, h3, h4, h5, h6⟩
  · exact ⟨101, true, h2, .inl ⟨h1, rfl, rfl⟩⟩
  · exact ⟨0, false, h3, .inr (.inl ⟨h1, h2, rfl, rfl⟩)⟩
  · exact ⟨W, true, h6, .inr (.inr ⟨h1, h2, h3, h4, h5, rfl⟩)⟩
theorem sam_refl (k : Nat) (us : List TieD) (x : Int) : samB k us x x = true := by unfold samB; simp
theorem sam_symm {k : Nat} {us : List TieD} {x y : Int} (h : samB k us x y = true) : samB k us y x = true := by unfold samB at *; rw [beq_iff_eq] at *; exact h.symm
theorem sam_trans {k : Nat} {us : List TieD} {x y z : Int} (h : samB k us x y = true) (h' : samB k us y z = true) : samB k us x z = true := by unfold samB at *; rw [beq_iff_eq] at *; exact h.trans h'
theorem sam_sub {k : Nat} {us vs : List TieD} {x y : Int} (hu : ∀ t ∈ us, tieB t k = true) (hv : ∀ t ∈ vs, tieB t k = true) (hx : x.toNat < k) (hy : y.toNat < k) (h : ∀ t ∈ us, t ∈ vs) (hs : samB k us x y = true) : samB k vs x y = true :=
  sam_joins hu hv hx hy (fun t ht _ => h t ht) hs
theorem sam_less {k : Nat} {ts : List TieD} {s s' : Int} {x y : Int} (hv : ∀ t ∈ ts, tieB t k = true) (hx : x.toNat < k) (hy : y.toNat < k) (h : s ≤ s') (hs : samB k (stF ts s') x y = true) : samB k (stF ts s) x y = true :=
  sam_sub (stF_valid hv) (stF_valid hv) hx hy (stF_less h) hs
theorem WdR.low {k : Nat} {ts : List TieD} {p z : Nat} {W : Int} {B : Bool} (h : WdR k ts p z W B) (hv : ∀ t ∈ ts, tieB t k = true) (hp : p < k) (hz : z < k) (hB : B = true) {s : Int} (hs : s ≤ W) : samB k (stF ts s) p z = true := by
  rcases h with ⟨rfl, _⟩ | ⟨_, _, _, h⟩ | ⟨_, _, _, h, _⟩
  · exact sam_refl _ _ _
  · rw [hB] at h; cases h
  · exact sam_less hv (by simpa using hp) (by simpa using hz) hs h
theorem WdR.high {k : Nat} {ts : List TieD} {p z : Nat} {W : Int} {B : Bool} (h : WdR k ts p z W B) (hv : ∀ t ∈ ts, tieB t k = true) (hp : p < k) (hz : z < k) {s : Int} (hs : s ≤ 101) (hsm : samB k (stF ts s) p z = true) : B = true ∧ s ≤ W := by
  rcases h with ⟨_, h1, h2⟩ | ⟨_, h1, _⟩ | ⟨_, _, _, _, h1, h2⟩
  · exact ⟨h2, by omega⟩
  · have := sam_sub (stF_valid hv) hv (by simpa using hp) (by simpa using hz) (fun t ht => (stF_mem.1 ht).1) hsm
    rw [h1] at this; cases this
  · refine ⟨h2, ?_⟩
    rcases Int.lt_or_le W s with h3 | h3
    · have := sam_less (s := W + 1) hv (by simpa using hp) (by simpa using hz) (by omega) hsm
      rw [h1] at this; cases this
    · exact h3
theorem WdR.bound {k : Nat} {ts : List TieD} {p z : Nat} {W : Int} {B : Bool} (h : WdR k ts p z W B) : (B = false ∧ W = 0 ∧ p ≠ z) ∨ (B = true ∧ 1 ≤ W ∧ W ≤ 101 ∧ (W = 101 ↔ p = z)) := by
  rcases h with ⟨h1, h2, h3⟩ | ⟨h0, h1, h2, h3⟩ | ⟨h0, h1, h2, _, _, h3⟩
  · exact .inr ⟨h3, by omega, by omega, ⟨fun _ => h1, fun _ => h2⟩⟩
  · exact .inl ⟨h3, h2, h0⟩
  · exact .inr ⟨h3, by omega, by omega, ⟨fun h => by omega, fun h => absurd h h0⟩⟩
theorem WdR.same {k : Nat} {ts : List TieD} {p z : Nat} {W : Int} {B : Bool} (h : WdR k ts p z W B) (hv : ∀ t ∈ ts, tieB t k = true) (hp : p < k) (hz : z < k) : samB k ts p z = B := by
  rcases h with ⟨rfl, _, h⟩ | ⟨_, h1, _, h⟩ | ⟨_, _, _, h1, _, h⟩
  · rw [h]; exact sam_refl _ _ _
  · rw [h, h1]
  · rw [h]; exact sam_sub (stF_valid hv) hv (by simpa using hp) (by simpa using hz) (fun t ht => (stF_mem.1 ht).1) h1
theorem WdR.symm {k : Nat} {ts : List TieD} {p z : Nat} {W W' : Int} {B B' : Bool} (h : WdR k ts p z W B) (h' : WdR k ts z p W' B') (hv : ∀ t ∈ ts, tieB t k = true) (hp : p < k) (hz : z < k) : B' = B ∧ W' = W := by
  rcases h.bound with ⟨h1, h2, h0⟩ | ⟨h1, h2, h3, _⟩ <;> rcases h'.bound with ⟨g1, g2, _⟩ | ⟨g1, g2, g3, _⟩
  · exact ⟨by rw [h1, g1], by omega⟩
  · have := (h.high hv hp hz g3 (sam_symm (h'.low hv hz hp g1 (Int.le_refl _)))).1
    rw [h1] at this; cases this
  · have := (h'.high hv hz hp h3 (sam_symm (h.low hv hp hz h1 (Int.le_refl _)))).1
    rw [g1] at this; cases this
  · have a := (h.high hv hp hz g3 (sam_symm (h'.low hv hz hp g1 (Int.le_refl _)))).2
    have b := (h'.high hv hz hp h3 (sam_symm (h.low hv hp hz h1 (Int.le_refl _)))).2
    exact ⟨by rw [h1, g1], by omega⟩
theorem WdR.tri {k : Nat} {ts : List TieD} {p z r : Nat} {W Y Z : Int} {B C D : Bool} (h : WdR k ts p z W B) (h' : WdR k ts z r Y C) (h2 : WdR k ts p r Z D) (hv : ∀ t ∈ ts, tieB t k = true) (hp : p < k) (hz : z < k) (hr : r < k) (hB : B = true) (hC : C = true) : D = true ∧ min W Y ≤ Z := by
  have a := h.low hv hp hz hB (s := min W Y) (Int.min_le_left _ _)
  have b := h'.low hv hz hr hC (s := min W Y) (Int.min_le_right _ _)
  rcases h.bound with ⟨h1, _⟩ | ⟨_, _, h3, _⟩
  · rw [hB] at h1; cases h1
  · exact h2.high hv hp hr (Int.le_trans (Int.min_le_left _ _) h3) (sam_trans a b)
theorem leF_le {ts : List TieD} {l : List Int} : leF ts l ≤ 101 ∧ ∀ i ∈ l, leF ts l ≤ strAt ts i := by
  unfold leF
  generalize (101 : Int) = c
  induction l generalizing c with
  | nil => exact ⟨Int.le_refl _, fun i hi => by cases hi⟩
  | cons j l ih =>
    rw [List.foldl_cons]
    obtain ⟨h1, h2⟩ := ih (min c (strAt ts j))
    refine ⟨Int.le_trans h1 (Int.min_le_left _ _), fun i hi => ?_⟩
    rcases List.mem_cons.1 hi with rfl | hi
    · exact Int.le_trans h1 (Int.min_le_right _ _)
    · exact h2 i hi
theorem leF_ge {ts : List TieD} {l : List Int} {s : Int} (hs : s ≤ 101) (h : ∀ i ∈ l, s ≤ strAt ts i) : s ≤ leF ts l := by
  unfold leF
  generalize (101 : Int) = c at *
  induction l generalizing c with
  | nil => exact hs
  | cons j l ih =>
    rw [List.foldl_cons]
    exact ih (fun i hi => h i (List.mem_cons_of_mem _ hi)) (min c (strAt ts j)) (by have := h j List.mem_cons_self; omega)
theorem WdR.chain {k : Nat} {ts : List TieD} {p z : Nat} {W : Int} {B : Bool} (h : WdR k ts p z W B) (hv : ∀ t ∈ ts, tieB t k = true) (hp : p < k) (hz : z < k) {l : List Int} (hl : leadF ts l ((p : Int), 0) = some ((z : Int), 0)) : B = true ∧ leF ts l ≤ W := by
  refine h.high hv hp hz leF_le.1 ?_
  unfold samB
  rw [beq_iff_eq]
  refine lead_same_us hv (stF_valid hv) (by simpa using hp) (by simpa using hz) (fun i hi t ht => ?_) hl
  refine stF_mem.2 ⟨List.mem_of_getElem? ht, ?_⟩
  have := leF_le (ts := ts).2 i hi
  unfold strAt at this
  rw [ht] at this
  exact this
theorem lead_idx {ts : List TieD} {l : List Int} {p q : Int × Int} (h : leadF ts l p = some q) : ∀ i ∈ l, 0 ≤ i ∧ i < ts.length := fun i hi => by
  obtain ⟨h1, t, h2⟩ := lead_valid h i hi
  have := (List.getElem?_eq_some_iff.1 h2).1
  exact ⟨h1, by omega⟩
theorem le_strong {ts : List TieD} {s : Int} {l : List Int} {p q : Int × Int} (hs : s ≤ 101) (h : leadF (stF ts s) l p = some q) : s ≤ leF (stF ts s) l := leF_ge hs fun i hi => by
  obtain ⟨h1, t, h2⟩ := lead_valid h i hi
  unfold strAt
  rw [h2]
  exact (stF_mem.1 (List.mem_of_getElem? h2)).2
end Go.Proofs.YthjeiaildabadaaGreat
