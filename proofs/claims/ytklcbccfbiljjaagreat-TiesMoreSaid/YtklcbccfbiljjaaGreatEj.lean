/- Layer 4: slices.Contains of ties, and the closure of Merge. -/
import Derived.Test.YtklcbccfbiljjaaGreatEi
namespace Go.Proofs.YtklcbccfbiljjaaGreat
set_option linter.unusedSimpArgs false
set_option linter.unusedVariables false
open Go Go.RowKit

set_option maxRecDepth 100000 in
theorem containsT_any (x : TieD) (a : Option Addr) (cap : Nat) (ls : List TieD) (w : World) (hl : ls.length ≤ 100000) (hs : TiesAt w a ls) :
    Calls Tryz.prog 37 #[.slice a ls.length cap, tieV x] w fun e w' => e = .returned (.bool (decide (x ∈ ls))) ∧ Below w.heap.size w w' := by
  have HX : Hid (∀ W, Below w.heap.size w W → Calls Tryz.prog 65 #[.slice a ls.length cap, tieV x] W fun e w' => e = .returned (.int .i64 (ixTI ls x)) ∧ Below W.heap.size W w') := fun W hb => indexT_any x a cap ls W hl (hs.below hb)
  have HV := Lib.hid (ixTI_has ls x)
  obtain ⟨v, hv⟩ : ∃ v, v = decide (x ∈ ls) := ⟨_, rfl⟩
  rw [Hid, ← hv] at HV
  rw [← hv]
  obtain ⟨m, hm⟩ : ∃ m, m = ls.length := ⟨_, rfl⟩
  rw [← hm] at hl HX ⊢
  generalize ixTI ls x = R at *
  clear hv hm hs
  have HB0 : Hid (Below w.heap.size w (w.alloc (.cells #[.int .i64 x.a, .int .i64 x.b, .int .i64 x.kind, .int .i64 x.str, .int .i64 x.src] 26))) := (Below.refl _ _).alloc (Nat.le_refl _) _
  obtain ⟨ya, yb, yk, ys, yr⟩ := x
  simp only [tieV] at HX HB0 ⊢
  go_enter Tryz.func37, Tryz.ntmps37
  go_wp2_with (first | (go_at_call 65; refine (HX.out _ HB0.out).mono ?_; rintro e w1 ⟨rfl, hb⟩; clear HX; have HB1 := Lib.hid (HB0.out.trans (hb.mono HB0.out.size)); clear hb))
  all_goals (
    refine bodyPost_ret (v := .bool v) (by rw [← HV]; simp [results, Tryz.results37, go_sem]) rfl ?_
    exact ⟨rfl, HB1.out⟩)
set_option maxRecDepth 100000 in
theorem mergeFn_any (t : TieD) (bs : Nat) (n : Int) (a : Option Addr) (cap : Nat) (ls : List TieD) (w : World) (hl : ls.length ≤ 100000) (hs : TiesAt w a ls) (h : Blk w bs [.int .i64 n, .slice a ls.length cap] 24) :
    Calls Tryz.prog 36 #[tieV t, .pointer (some ⟨bs, 0, none⟩)] w fun e w' => e = .returned (.bool (!decide (t ∈ ls))) ∧ Below w.heap.size w w' := by
  have HB0 : Hid (Below w.heap.size w (w.alloc (.cells #[.int .i64 t.a, .int .i64 t.b, .int .i64 t.kind, .int .i64 t.str, .int .i64 t.src] 26))) := (Below.refl _ _).alloc (Nat.le_refl _) _
  have hb := h.below HB0.out
  have c1 := hb.cell (i := 1) rfl
  have HX : Hid (∀ W, Below w.heap.size w W → Calls Tryz.prog 37 #[.slice a ls.length cap, tieV t] W fun e w' => e = .returned (.bool (decide (t ∈ ls))) ∧ Below W.heap.size W w') := fun W hb => containsT_any t a cap ls W hl (hs.below hb)
  generalize decide (t ∈ ls) = v at *
  obtain ⟨m, hm⟩ : ∃ m, m = ls.length := ⟨_, rfl⟩
  rw [← hm] at hl HX c1
  clear hm hs h hb
  obtain ⟨ya, yb, yk, ys, yr⟩ := t
  simp only [tieV] at HX HB0 c1 ⊢
  go_enter Tryz.func36, Tryz.ntmps36
  go_wp2_with (first | (go_at_call 37; refine (HX.out _ HB0.out).mono ?_; rintro e w1 ⟨rfl, hb⟩; clear HX; have HB1 := Lib.hid (HB0.out.trans (hb.mono HB0.out.size)); clear hb))
  all_goals (
    go_ret
    exact ⟨rfl, HB1.out⟩)
end Go.Proofs.YtklcbccfbiljjaaGreat
