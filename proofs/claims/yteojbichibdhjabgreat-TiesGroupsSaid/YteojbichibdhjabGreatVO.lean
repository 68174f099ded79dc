/- The interpreter of closed runs, a part of it. -/
import Derived.Test.YteojbichibdhjabGreatVP
namespace Go.Clo
set_option linter.unusedSimpArgs false
set_option linter.unusedVariables false
set_option linter.unnecessarySimpa false
open Go Go.RowKit

variable {P : Program} {W0 : World}

/-- More numbers are set apart. -/
theorem Step.bump {ρ : Rho} {s : St} {w : World} (h : Rel W0 ρ s w) (n : Nat) (hn : s.size ≤ n) : Step W0 ρ s w ρ ⟨s.mem, n⟩ w where
  le := ρ.le_refl
  rel := ⟨h.below, fun b x hb => (h.blk b x hb).imp (fun k => Nat.lt_of_lt_of_le k hn) id, fun b hb => h.fresh b (Nat.le_trans hn hb), h.dis⟩
  size := hn
  wsize := Nat.le_refl _
  keeps _ _ _ := rfl
  img _ _ k := k
  hole _ _ k := k
  unborn _ _ k := k
  stay _ y k := ⟨y, k⟩
/-- The world draws a number. -/
theorem Step.world {ρ0 ρ : Rho} {s0 s : St} {w0 w w' : World} (h : Step W0 ρ0 s0 w0 ρ s w) (he : w'.heap = w.heap) (ht : w'.tape = w.tape) (ho : w'.os = w.os) (hu : w'.output = w.output) : Step W0 ρ0 s0 w0 ρ s w' :=
  h.trans (Step.draw h.rel he ht ho hu)
/-- A block is made whose number was set apart. -/
theorem Step.float {ρ0 ρ : Rho} {s0 Y : St} {w0 w : World} (hst : Step W0 ρ0 s0 w0 ρ Y w) {id : Nat} (hn : ρ id = none) (h0 : s0.size ≤ id) (hid : id < Y.size) (obj : Obj) :
    Step W0 ρ0 s0 w0 (ρ.upd id ⟨w.heap.size, 0, 0⟩) Y (w.alloc obj) := by
  have hg : Y.get id = none := by
    cases hg : Y.get id with
    | none => rfl
    | some y => obtain ⟨_, l, hl, _⟩ := hst.rel.blk _ _ hg; rw [hn] at hl; cases hl
  have hrel : Rel W0 (ρ.upd id ⟨w.heap.size, 0, 0⟩) ⟨Y.mem, Y.size⟩ (w.alloc obj) := (hst.rel.grow obj).place (n := Y.size) _ hn hg hid (Nat.le_refl _)
  refine ⟨Rho.le_trans hst.le (Rho.le_upd _ hn), hrel, hst.size, Nat.le_trans hst.wsize (by simp), ?_, ?_, hst.hole, ?_, hst.stay⟩
  · intro r hr hi
    rw [heap_alloc_old w obj (Nat.lt_of_lt_of_le hr hst.wsize)]
    exact hst.keeps r hr hi
  · rintro r hr ⟨b, y, l, hb, ha, hl, hlr⟩
    have : b ≠ id := fun e => by subst e; rw [hg] at hb; cases hb
    rw [Rho.upd_other _ _ this] at hl
    exact hst.img r hr ⟨b, y, l, hb, ha, hl, hlr⟩
  · intro b hb hu
    rw [Rho.upd_other _ _ (by omega)]
    exact hst.unborn b hb hu
/-- A block that was made and is not in the memory yet. -/
structure PendOK (ρ : Rho) (s0 : St) (w0 : World) (Y : St) (w : World) (id : Nat) (x : Blk) : Prop where
  low : s0.size ≤ id
  lt : id < Y.size
  al : x.alive
  ok : Y.get id = none → ∃ l, ρ id = some l ∧ w0.heap.size ≤ l.blk ∧ l.blk < w.heap.size ∧ BOK ρ w l x ∧ ¬ Img ρ Y l.blk
theorem Step.put {ρ0 ρ : Rho} {s0 Y : St} {w0 w : World} (hB : W0.heap.size ≤ w0.heap.size) (hst : Step W0 ρ0 s0 w0 ρ Y w) {id : Nat} {x : Blk} (hp : PendOK ρ s0 w0 Y w id x) (hg : Y.get id = none) : Step W0 ρ0 s0 w0 ρ (Y.put id x) w := by
  obtain ⟨l, hl, h1, h2, h3, h4⟩ := hp.ok hg
  refine ⟨hst.le, hst.rel.add hp.lt hg hl (Side.of hp.al (Nat.le_trans hB h1)) h2 h4 h3, hst.size, hst.wsize, hst.keeps, ?_, ?_, hst.unborn, ?_⟩
  · rintro r hr ⟨b, y, m, hb, ha, hm, rfl⟩
    rw [St.get_put] at hb
    by_cases e : b = id
    · subst e; rw [hl] at hm; injection hm with hm; subst hm; omega
    · rw [if_neg e] at hb; exact hst.img _ hr ⟨b, y, m, hb, ha, hm, rfl⟩
  · intro b hb hn
    have := hp.low
    rw [St.get_put, if_neg (by omega)]
    exact hst.hole b hb hn
  · intro b y hy
    obtain ⟨z, hz⟩ := hst.stay b y hy
    rw [St.get_put]
    by_cases e : b = id
    · rw [if_pos e]; exact ⟨_, rfl⟩
    · rw [if_neg e]; exact ⟨z, hz⟩
theorem addPend_cons (Y : St) (e : Nat × Nat × Blk) (q : Pend) : addPend Y (e :: q) = addPend (match Y.get e.2.1 with | some _ => Y | none => Y.put e.2.1 e.2.2) q := rfl
/-- What holds when blocks that were made are put into the memory. -/
structure Added (W0 : World) (ρ0 : Rho) (s0 : St) (w0 : World) (ρ : Rho) (Y : St) (w : World) (q : Pend) (Z : St) : Prop where
  step : Step W0 ρ0 s0 w0 ρ Z w
  size : Z.size = Y.size
  other : ∀ b, (∀ e ∈ q, e.2.1 ≠ b) → Z.get b = Y.get b
  there : ∀ e ∈ q, ∃ y, Z.get e.2.1 = some y
  old : ∀ b y, Y.get b = some y → Z.get b = some y
  img : ∀ r, Img ρ Z r → Img ρ Y r ∨ ∃ e ∈ q, Y.get e.2.1 = none ∧ ∃ l, ρ e.2.1 = some l ∧ l.blk = r
theorem addPend_ok {ρ0 ρ : Rho} {s0 : St} {w0 w : World} (hB : W0.heap.size ≤ w0.heap.size) : ∀ (q : Pend) {Y : St}, Step W0 ρ0 s0 w0 ρ Y w → (∀ e ∈ q, PendOK ρ s0 w0 Y w e.2.1 e.2.2) →
    (∀ e ∈ q, ∀ e' ∈ q, e.2.1 ≠ e'.2.1 → Y.get e.2.1 = none → Y.get e'.2.1 = none → ∀ l l', ρ e.2.1 = some l → ρ e'.2.1 = some l' → l.blk ≠ l'.blk) → Added W0 ρ0 s0 w0 ρ Y w q (addPend Y q)
  | [], Y, hst, _, _ => ⟨hst, rfl, fun _ _ => rfl, fun _ h => by (cases h), fun _ _ h => h, fun _ h => Or.inl h⟩
  | e :: q, Y, hst, hp, hap => by
    rw [addPend_cons]
    cases hg : Y.get e.2.1 with
    | some y0 =>
      have k := addPend_ok hB q hst (fun e' he' => hp e' (List.mem_cons_of_mem _ he')) (fun e1 h1 e2 h2 => hap e1 (List.mem_cons_of_mem _ h1) e2 (List.mem_cons_of_mem _ h2))
      refine ⟨k.step, k.size, fun b hb => k.other b fun e' he' => hb e' (List.mem_cons_of_mem _ he'), fun e' he' => ?_, k.old, fun r hr => (k.img r hr).imp id fun ⟨e', he', h⟩ => ⟨e', List.mem_cons_of_mem _ he', h⟩⟩
      rcases List.mem_cons.1 he' with rfl | he'
      · exact ⟨y0, k.old _ _ hg⟩
      · exact k.there e' he'
    | none =>
      have hpe := hp e List.mem_cons_self
      obtain ⟨l, hl, h1, h2, h3, h4⟩ := hpe.ok hg
      have himg : ∀ r, Img ρ (Y.put e.2.1 e.2.2) r → Img ρ Y r ∨ l.blk = r := by
        rintro r ⟨b, y, m, hb, ha, hm, rfl⟩
        rw [St.get_put] at hb
        by_cases e' : b = e.2.1
        · subst e'; rw [hl] at hm; injection hm with hm; subst hm; exact Or.inr rfl
        · rw [if_neg e'] at hb; exact Or.inl ⟨b, y, m, hb, ha, hm, rfl⟩
      have hnone : ∀ b, (Y.put e.2.1 e.2.2).get b = none → b ≠ e.2.1 ∧ Y.get b = none := fun b hb => by
        rw [St.get_put] at hb
        by_cases e' : b = e.2.1
        · rw [if_pos e'] at hb; cases hb
        · rw [if_neg e'] at hb; exact ⟨e', hb⟩
      have k := addPend_ok hB q (Step.put hB hst hpe hg) (fun e' he' => by
          have he := hp e' (List.mem_cons_of_mem _ he')
          refine ⟨he.low, he.lt, he.al, fun hn => ?_⟩
          obtain ⟨hne, hn⟩ := hnone _ hn
          obtain ⟨l', hl', k1, k2, k3, k4⟩ := he.ok hn
          refine ⟨l', hl', k1, k2, k3, fun hi => ?_⟩
          rcases himg _ hi with hi | hi
          · exact k4 hi
          · exact hap e List.mem_cons_self e' (List.mem_cons_of_mem _ he') (Ne.symm hne) hg hn l l' hl hl' hi)
        (fun e1 k1 e2 k2 hne n1 n2 => hap e1 (List.mem_cons_of_mem _ k1) e2 (List.mem_cons_of_mem _ k2) hne (hnone _ n1).2 (hnone _ n2).2)
      refine ⟨k.step, k.size, fun b hb => ?_, fun e' he' => ?_, fun b y hy => ?_, fun r hr => ?_⟩
      · rw [k.other b fun e' he' => hb e' (List.mem_cons_of_mem _ he'), St.get_put, if_neg (Ne.symm (hb e List.mem_cons_self))]
      · rcases List.mem_cons.1 he' with rfl | he'
        · exact ⟨_, k.old e'.2.1 e'.2.2 (by rw [St.get_put, if_pos rfl])⟩
        · exact k.there e' he'
      · have : b ≠ e.2.1 := fun h => by subst h; rw [hg] at hy; cases hy
        exact k.old b y (by rw [St.get_put, if_neg this]; exact hy)
      · rcases k.img r hr with hi | ⟨e', he', hn, l', hl', hr'⟩
        · rcases himg r hi with hi | hi
          · exact Or.inl hi
          · exact Or.inr ⟨e, List.mem_cons_self, hg, l, hl, hi⟩
        · exact Or.inr ⟨e', List.mem_cons_of_mem _ he', (hnone _ hn).2, l', hl', hr'⟩

theorem mem_ownOf {b : List Nat} {i : Nat} {e : Nat × Nat × Blk} : ∀ {q : Pend}, e ∈ ownOf b i q ↔ e ∈ q ∧ before b e.1 i = true
  | [] => by simp [ownOf]
  | x :: q => by
    have ih := mem_ownOf (b := b) (i := i) (e := e) (q := q)
    unfold ownOf
    cases hx : before b x.1 i with
    | true =>
      simp only [List.mem_cons, ih]
      constructor
      · rintro (rfl | ⟨h1, h2⟩)
        · exact ⟨Or.inl rfl, hx⟩
        · exact ⟨Or.inr h1, h2⟩
      · rintro ⟨rfl | h1, h2⟩
        · exact Or.inl rfl
        · exact Or.inr ⟨h1, h2⟩
    | false =>
      simp only [List.mem_cons, ih]
      constructor
      · rintro ⟨h1, h2⟩; exact ⟨Or.inr h1, h2⟩
      · rintro ⟨rfl | h1, h2⟩
        · rw [hx] at h2; cases h2
        · exact ⟨h1, h2⟩
theorem mem_restOf {b : List Nat} {i : Nat} {e : Nat × Nat × Blk} : ∀ {q : Pend}, e ∈ restOf b i q ↔ e ∈ q ∧ before b e.1 i = false
  | [] => by simp [restOf]
  | x :: q => by
    have ih := mem_restOf (b := b) (i := i) (e := e) (q := q)
    unfold restOf
    cases hx : before b x.1 i with
    | false =>
      simp only [List.mem_cons, ih]
      constructor
      · rintro (rfl | ⟨h1, h2⟩)
        · exact ⟨Or.inl rfl, hx⟩
        · exact ⟨Or.inr h1, h2⟩
      · rintro ⟨rfl | h1, h2⟩
        · exact Or.inl rfl
        · exact Or.inr ⟨h1, h2⟩
    | true =>
      simp only [List.mem_cons, ih]
      constructor
      · rintro ⟨h1, h2⟩; exact ⟨Or.inr h1, h2⟩
      · rintro ⟨rfl | h1, h2⟩
        · rw [hx] at h2; cases h2
        · exact ⟨h1, h2⟩
end Go.Clo
