/- Layer 4: slices.Clone of ties. -/
import Derived.Test.YtlllmoafhfjbbaaGreatEd
import Derived.Lib.SliceRun
namespace Go.Proofs.YtlllmoafhfjbbaaGreat
set_option linter.unusedSimpArgs false
set_option linter.unusedVariables false
open Go Go.RowKit

theorem infoT5 : ∃ i, Tryz.prog.info? 33 = some i ∧ i.zero = some (.agg #[.int .i64 0, .int .i64 0, .int .i64 0, .int .i64 0, .int .i64 0]) ∧ i.size = 5 ∧ i.bytes = 40 := by
  obtain ⟨i0, h⟩ := info_parts infoT
  exact ⟨i0, h⟩
theorem tvC_one (t : TieD) : ∀ u ∈ tvC t, u.oneCell' = true := by simp [tvC, Value.oneCell']
theorem tvL_one : ∀ (l : List TieD), ∀ u ∈ tvL l, u.oneCell' = true
  | [], u, h => by cases h
  | t :: l, u, h => by
    rcases List.mem_append.1 h with h | h
    · exact tvC_one t u h
    · exact tvL_one l u h
theorem tvL_cells {w : World} {b o : Nat} : ∀ {l : List TieD}, (∀ i t, l[i]? = some t → w.cell? ⟨b, o + i * 5, none⟩ = some (.int .i64 t.a) ∧ w.cell? ⟨b, o + i * 5 + 1, none⟩ = some (.int .i64 t.b) ∧ w.cell? ⟨b, o + i * 5 + 2, none⟩ = some (.int .i64 t.kind) ∧ w.cell? ⟨b, o + i * 5 + 3, none⟩ = some (.int .i64 t.str) ∧ w.cell? ⟨b, o + i * 5 + 4, none⟩ = some (.int .i64 t.src)) → ∀ (j : Nat) (u : Value), (tvL l)[j]? = some u → w.cell? ((⟨b, o, none⟩ : Addr).add j) = some u := fun {l} h j u hj => by
  rw [addr_plain]
  have hjl : j < l.length * 5 := by rw [← tvL_len]; exact (List.getElem?_eq_some_iff.1 hj).1
  have hi : j / 5 < l.length := by omega
  have h5 : ∀ {u' : Value}, (tvC l[j / 5])[j % 5]? = some u' → some u = some u' := fun {u'} hu => by
    have h6 := tvL_get (List.getElem?_eq_getElem hi) hu
    rw [show j / 5 * 5 + j % 5 = j by omega, hj] at h6
    exact h6
  obtain ⟨c0, c1, c2, c3, c4⟩ := h (j / 5) _ (List.getElem?_eq_getElem hi)
  have hm : j % 5 < 5 := by omega
  have ej : o + j = o + j / 5 * 5 + j % 5 := by omega
  rw [ej]
  generalize l[j / 5] = t at *
  generalize o + j / 5 * 5 = q at *
  generalize j % 5 = r at *
  obtain rfl | rfl | rfl | rfl | rfl : r = 0 ∨ r = 1 ∨ r = 2 ∨ r = 3 ∨ r = 4 := by omega
  · have h6 := h5 (u' := .int .i64 t.a) rfl; injection h6 with h6; rw [h6]; exact c0
  · have h6 := h5 (u' := .int .i64 t.b) rfl; injection h6 with h6; rw [h6]; exact c1
  · have h6 := h5 (u' := .int .i64 t.kind) rfl; injection h6 with h6; rw [h6]; exact c2
  · have h6 := h5 (u' := .int .i64 t.str) rfl; injection h6 with h6; rw [h6]; exact c3
  · have h6 := h5 (u' := .int .i64 t.src) rfl; injection h6 with h6; rw [h6]; exact c4
/-- A slice of ties as an address with its cells. -/
theorem ties_src {w : World} {ad : Addr} {l : List TieD} (h : TiesAt w (some ad) l) : ∀ (j : Nat) (u : Value), (tvL l)[j]? = some u → w.cell? (ad.add j) = some u := by
  rcases h with rfl | ⟨b, o, e, hb, h⟩
  · intro j u hj; cases hj
  · injection e with e; subst e
    exact tvL_cells h
/-- A new empty slice. -/
theorem own_empty (w : World) (base : Nat) (e : TypeId) (size : Nat) (h : base ≤ w.heap.size) : (w.alloc (.cells #[] e)).ownsRow base e size (.slice (some ⟨w.heap.size, 0, none⟩) 0 0) 0 [] :=
  ⟨by simp, .inr ⟨w.heap.size, 0, #[], rfl, h, heap_alloc_new w _, Nat.le_refl _, by simp [maxLen], by simp, by simp⟩⟩
set_option maxRecDepth 100000 in
set_option maxHeartbeats 4000000 in
theorem Clone_any (a : Option Addr) (cap : Nat) (ts : List TieD) (w : World) (hl : ts.length ≤ 1000) (hs : TiesAt w a ts) :
    Calls Tryz.prog 51 #[.slice a ts.length cap] w fun e w' => ∃ v, e = .returned v ∧ w'.ownsRow w.heap.size 33 5 v ts.length (tvL ts) ∧ Below w.heap.size w w' := by
  obtain ⟨i0, hi0, hz0, hz1, hz2⟩ := info_parts infoT
  have qT : ∀ (w : World) (a : Option Addr) (n c n' c' : Nat), (binOp .eql 22 (.slice a n c) (.slice none n' c')).run Tryz.prog w = .ok (.bool a.isNone) w := fun w a n c n' c' => Lib.run_eql_slice_nil w _ _ a n c n' c' Tryz.underlying22
  cases a with
  | none =>
    have h0 : ts = [] := by exact hs.elim id fun ⟨_, _, h, _⟩ => by cases h
    subst h0
    clear hs hl
    simp only [List.length_nil]
    go_enter Tryz.func51, Tryz.ntmps51
    go_wp2_with fail
    refine bodyPost_ret (v := .slice none 0 0) (by simp [results, Tryz.results51, go_sem]) rfl ?_
    exact ⟨_, rfl, World.ownsRow_nil _ _ _ _, Below.refl _ _⟩
  | some ad =>
    have HS := Lib.hid hs
    obtain ⟨m, hm⟩ : ∃ m, m = ts.length := ⟨_, rfl⟩
    rw [← hm] at hl ⊢
    have HM := Lib.hid hm
    clear hs hm
    go_enter Tryz.func51, Tryz.ntmps51
    go_wp2_with (first | (at_builtin; go_loud (refine wpList_append_own _ rfl _ _ 22 rfl w.heap.size 33 i0 (.agg #[.int .i64 0, .int .i64 0, .int .i64 0, .int .i64 0, .int .i64 0]) 5 40 Tryz.underlying22 hi0 hz0 hz1 hz2 rfl (by decide) (.slice (some ⟨w.heap.size, 0, none⟩) 0 0) 0 [] rfl (own_empty w _ _ _ (Nat.le_refl _)) ad m cap (tvL ts) rfl (by rw [tvL_len, HM.out]) (ties_src (HS.out.below ((Below.refl _ _).alloc (Nat.le_refl _) _))) (tvL_one ts) (by simp only [maxLen]; omega) (by omega) (by simp) ?_; intro v2 w6 hown hgrow _; rw [Nat.zero_add, List.nil_append] at hown; have K6 := Lib.hid hown; have B6 : Hid (Below w.heap.size w w6) := ((Below.refl _ _).alloc (Nat.le_refl _) _).grown hgrow (by simp) (fun q hq => by cases hq; exact Nat.le_refl _); clear hown hgrow)))
    refine bodyPost_ret (v := v2) (by simp [results, Tryz.results51, go_sem]) rfl ?_
    exact ⟨_, rfl, K6.out, B6.out⟩
end Go.Proofs.YtlllmoafhfjbbaaGreat
