/- Layer 4: an argument that is a tie; five arguments. -/
import Derived.Test.YtklcbccfbiljjaaGreatUn
namespace Go.Proofs.YtklcbccfbiljjaaGreat
set_option linter.unusedSimpArgs false
set_option linter.unusedVariables false
open Go Go.RowKit Go.ChangeShapes Go.WideShapes
variable {H : Type} {enc : TypeId × Value → H} {W : World} {base : Nat} {r : Reach}
theorem typesTie : Tryz.prog.cellTypes Tryz.prog.depth 26 = some [3, 3, 3, 3, 3] := by kernel_rfl
set_option maxRecDepth 100000 in
theorem open_tie {v : Value} (hval : Value.okWide Tryz.prog W r base 26 v) : ∃ t : TieD, v = tieV t := by
  simp only [Value.okWide, Tryz.underlying26] at hval
  obtain ⟨cs, rfl, h2, ts, ht, _, hc⟩ := hval
  rw [cellsTie] at h2
  rw [typesTie] at ht
  injection ht with ht
  subst ht
  obtain ⟨l0⟩ := cs
  have h2 : l0.length = 5 := h2
  match l0, h2 with
  | [c0, c1, c2, c3, c4], _ =>
    have at_ : ∀ (i : Nat) (c : Value), [c0, c1, c2, c3, c4][i]? = some c → i < 5 → ∃ n, c = .int .i64 n := fun i c hi h5 => by
      obtain ⟨u, hu, hk⟩ := hc i c (by simpa using hi)
      have e : [3, 3, 3, 3, 3][i % [3, 3, 3, 3, 3].length]? = some 3 := by
        match i, h5 with
        | 0, _ => rfl
        | 1, _ => rfl
        | 2, _ => rfl
        | 3, _ => rfl
        | 4, _ => rfl
      rw [e] at hu
      injection hu with hu
      subst hu
      exact cell_intT hk
    obtain ⟨n0, rfl⟩ := at_ 0 c0 rfl (by omega)
    obtain ⟨n1, rfl⟩ := at_ 1 c1 rfl (by omega)
    obtain ⟨n2, rfl⟩ := at_ 2 c2 rfl (by omega)
    obtain ⟨n3, rfl⟩ := at_ 3 c3 rfl (by omega)
    obtain ⟨n4, rfl⟩ := at_ 4 c4 rfl (by omega)
    exact ⟨⟨n0, n1, n2, n3, n4⟩, rfl⟩
variable {P : Program} {w : World} {spare : Nat → Bool} {held : Bool}
theorem trodAll_five {t t' t'' t3 t4 : TypeId} {args : Array Value} {ds : List (DataW H)} {ps : List MemPlace} (h : DataW.TrodAll enc P w base spare held [t, t', t'', t3, t4] args.toList ds ps) :
    ∃ v v' v'' v3 v4 d d' d'' d3 d4 p p' p'' p3 p4, args = #[v, v', v'', v3, v4] ∧ ds = [d, d', d'', d3, d4] ∧ ps = p ++ p' ++ p'' ++ p3 ++ p4 ∧ DataW.Trod enc P w base spare held t v d p ∧ DataW.Trod enc P w base spare held t' v' d' p' ∧ DataW.Trod enc P w base spare held t'' v'' d'' p'' ∧ DataW.Trod enc P w base spare held t3 v3 d3 p3 ∧ DataW.Trod enc P w base spare held t4 v4 d4 p4 := by
  obtain ⟨v, vs, d, ds', p, q, hargs, rfl, rfl, hd, hrest⟩ := trodAll_cons h
  obtain ⟨v', vs', d', ds'', p', q', rfl, rfl, rfl, hd', hrest'⟩ := trodAll_cons hrest
  obtain ⟨v'', vs'', d'', ds''', p'', q'', rfl, rfl, rfl, hd'', hrest''⟩ := trodAll_cons hrest'
  obtain ⟨v3, vs3, d3, ds3, p3, q3, rfl, rfl, rfl, hd3, hrest3⟩ := trodAll_cons hrest''
  obtain ⟨v4, vs4, d4, ds4, p4, q4, rfl, rfl, rfl, hd4, hrest4⟩ := trodAll_cons hrest3
  obtain ⟨rfl, rfl, rfl⟩ := trodAll_nil hrest4
  exact ⟨v, v', v'', v3, v4, d, d', d'', d3, d4, p, p', p'', p3, p4, by cases args; simp_all, rfl, by simp, hd, hd', hd'', hd3, hd4⟩
theorem trodAll_mk5 {t t' t'' t3 t4 : TypeId} {v v' v'' v3 v4 : Value} {d d' d'' d3 d4 : DataW H} {p p' p'' p3 p4 : List MemPlace} (h : DataW.Trod enc P w base spare held t v d p) (h' : DataW.Trod enc P w base spare held t' v' d' p')
    (h'' : DataW.Trod enc P w base spare held t'' v'' d'' p'') (h3 : DataW.Trod enc P w base spare held t3 v3 d3 p3) (h4 : DataW.Trod enc P w base spare held t4 v4 d4 p4) : DataW.TrodAll enc P w base spare held [t, t', t'', t3, t4] [v, v', v'', v3, v4] [d, d', d'', d3, d4] (p ++ (p' ++ (p'' ++ (p3 ++ p4)))) := ⟨p, p' ++ (p'' ++ (p3 ++ p4)), h, trodAll_mk4 h' h'' h3 h4, rfl⟩
end Go.Proofs.YtklcbccfbiljjaaGreat
