/- The interpreter of closed runs, a part of it. -/
import Derived.Test.YtblmlkmibgklpaaGreatDoorVZ
namespace Go.Clo
set_option linter.unusedSimpArgs false
set_option linter.unusedVariables false
set_option linter.unnecessarySimpa false
open Go Go.RowKit

variable {P : Program} {W0 : World}

/-- A part of a run that only makes blocks which nobody looks at. -/
theorem Step.below {ρ : Rho} {s : St} {w w' : World} (h : Rel W0 ρ s w) (hb : Below w.heap.size w w') : Step W0 ρ s w ρ s w' where
  le := ρ.le_refl
  rel := by
    refine ⟨h.below.trans (hb.mono h.below.size), fun b x hx => ?_, h.fresh, h.dis⟩
    obtain ⟨h0, l, h1, h2, h3, h4⟩ := h.blk b x hx
    exact ⟨h0, l, h1, h2, Nat.lt_of_lt_of_le h3 hb.size, h4.world (hb.block _ h3)⟩
  size := Nat.le_refl _
  wsize := hb.size
  keeps r hr _ := hb.block r hr
  img _ _ k := k
  hole _ _ k := k
  unborn _ _ k := k
  stay _ y k := ⟨y, k⟩
/-- A new block behind others that nobody looks at. -/
theorem Step.made {ρ : Rho} {s : St} {w w' : World} (h : Rel W0 ρ s w) (hb : Below w.heap.size w w') {l : Loc} (hl : w.heap.size ≤ l.blk) (hlt : l.blk < w'.heap.size) {x : Blk} (hal : x.alive) (hx : BOK (ρ.upd s.size l) w' l x) :
    Step W0 ρ s w (ρ.upd s.size l) (s.alloc x) w' := by
  have h1 := Step.below h hb
  have hn : ρ s.size = none := h.fresh _ (Nat.le_refl _)
  have hg : s.get s.size = none := by
    cases hg : s.get s.size with
    | none => rfl
    | some y => have := (h.blk _ _ hg).1; omega
  have hid : s.size < s.size + 1 := Nat.lt_succ_self _
  have h2 := h1.rel.place (id := s.size) (n := s.size + 1) l hn hg hid (Nat.le_succ _)
  have hap : ¬ Img (ρ.upd s.size l) ⟨s.mem, s.size + 1⟩ l.blk := by
    rintro ⟨b, y, m, hb', _, hm, hr⟩
    have hb' : s.get b = some y := hb'
    obtain ⟨h0, m', k1, _, k2, _⟩ := h.blk b y hb'
    rw [Rho.upd_other _ _ (by omega)] at hm
    rw [hm] at k1; injection k1 with e; subst e
    omega
  have h3 := h2.add (id := s.size) (l := l) (x := x) hid hg (Rho.upd_same _ _ _) (Side.of hal (Nat.le_trans h.below.size hl)) hlt hap hx
  refine ⟨Rho.le_upd l hn, h3, Nat.le_succ _, hb.size, fun r hr _ => hb.block r hr, ?_, fun b hbs hn => by rw [St.get_alloc, if_neg (by omega)]; exact hn, fun b hbs hn => by rw [Rho.upd_other _ _ (by omega)]; exact hn, fun b y hy => ?_⟩
  · rintro r hr ⟨b, y, m, hb', ha, hm, hmr⟩
    rw [St.get_alloc] at hb'
    by_cases e : b = s.size
    · subst e
      rw [Rho.upd_same] at hm; injection hm with hm; subst hm
      omega
    · rw [if_neg e] at hb'
      rw [Rho.upd_other _ _ e] at hm
      exact ⟨b, y, m, hb', ha, hm, hmr⟩
  · rw [St.get_alloc]
    by_cases e : b = s.size
    · rw [if_pos e]; exact ⟨_, rfl⟩
    · rw [if_neg e]; exact ⟨y, hy⟩
end Go.Clo
