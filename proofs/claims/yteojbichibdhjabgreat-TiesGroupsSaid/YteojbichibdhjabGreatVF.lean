/- The interpreter of closed runs, a part of it. -/
import Derived.Test.YteojbichibdhjabGreatV4
import Derived.RangeFuncRecord
namespace Go.Clo
set_option linter.unusedSimpArgs false
set_option linter.unusedVariables false
set_option linter.unnecessarySimpa false
open Go Go.RowKit

variable {P : Program}

/-- What a map's stamps are like. -/
def Born (ents : List MapEntry) (clock : Nat) : Prop := (∀ x ∈ ents, x.born < clock) ∧ (ents.map (·.born)).Nodup
def stNo : LoopState → Nat
  | .ready => 0
  | .busy => 1
  | .done => 2
  | .exhausted => 3
/-- What the program's block is like, of one of the interpreter's. -/
def BOK (ρ : Rho) (w : World) (l : Loc) : Blk → Prop
  | .cells c ty => l.off = 0 ∧ ∃ us : List Value, w.heap[l.blk]? = some (.cells us.toArray ty (0, 0)) ∧ EL ρ c us
  | .row c _ sz _ _ => ∃ (us : List Value) (ty : TypeId), w.heap[l.blk]? = some (.cells us.toArray ty (0, 0)) ∧ (∀ (i : Nat) (v : V), c[i]? = some v → ∃ u, us[l.off + i]? = some u ∧ E ρ v u) ∧ l.off + l.cap * sz ≤ us.length ∧ c.length ≤ l.cap * sz
  | .map es => ∃ (ents : List MapEntry) (clock : Nat), w.heap[l.blk]? = some (.map ents.toArray clock) ∧ EL ρ (es.map (·.1)) (ents.map (·.key)) ∧ EL ρ (es.map (·.2)) (ents.map (·.val)) ∧ Born ents clock
  | .ro c => ∀ (i : Nat) (v : V), c[i]? = some v → ∃ u, w.cell? ⟨l.blk, l.off + i, none⟩ = some u ∧ E ρ v u
  | .dead => True
  | .loop t ps a c st pend => ∃ q : Loop, w.heap[l.blk]? = some (.loop q) ∧ FrE ρ t q.tmps ∧ q.params.toList = ps ∧ q.assign = a ∧ q.body = c ∧ stNo q.state = st ∧ q.pending = pend
theorem BOK.mono {ρ ρ' : Rho} (h : ρ.le ρ') {w : World} {l : Loc} {x : Blk} (k : BOK ρ w l x) : BOK ρ' w l x := by
  cases x with
  | cells c ty => obtain ⟨h0, us, h1, h2⟩ := k; exact ⟨h0, us, h1, EL.mono h _ h2⟩
  | row c ty sz next anc =>
    obtain ⟨us, ty', h1, h2, h3⟩ := k
    exact ⟨us, ty', h1, fun i v hv => (h2 i v hv).imp fun u hu => ⟨hu.1, E.mono h _ hu.2⟩, h3⟩
  | map es => obtain ⟨ents, clock, h1, h2, h3, h4⟩ := k; exact ⟨ents, clock, h1, EL.mono h _ h2, EL.mono h _ h3, h4⟩
  | ro c => exact fun i v hv => (k i v hv).imp fun u hu => ⟨hu.1, E.mono h _ hu.2⟩
  | dead => trivial
  | loop t ps a c st pend => obtain ⟨q, h1, h2, h3⟩ := k; exact ⟨q, h1, h2.mono h, h3⟩
theorem BOK.world {ρ : Rho} {w w' : World} {l : Loc} {x : Blk} (h : w'.heap[l.blk]? = w.heap[l.blk]?) (k : BOK ρ w l x) : BOK ρ w' l x := by
  cases x with
  | cells c ty => obtain ⟨h0, us, h1, h2⟩ := k; exact ⟨h0, us, h.trans h1, h2⟩
  | row c ty sz next anc => obtain ⟨us, ty', h1, h2, h3⟩ := k; exact ⟨us, ty', h.trans h1, h2, h3⟩
  | map es => obtain ⟨ents, clock, h1, h2, h3, h4⟩ := k; exact ⟨ents, clock, h.trans h1, h2, h3, h4⟩
  | ro c => exact fun i v hv => (k i v hv).imp fun u hu => ⟨(World.cell?_of_block h).trans hu.1, hu.2⟩
  | dead => trivial
  | loop t ps a c st pend => obtain ⟨q, h1, h2, h3⟩ := k; exact ⟨q, h.trans h1, h2, h3⟩
def Blk.alive : Blk → Prop
  | .dead => False
  | .ro _ => False
  | _ => True
/-- Where a block lies: what is only read lies ahead of all that the run makes. -/
def Side (W0 : World) (l : Loc) : Blk → Prop
  | .ro _ => l.blk < W0.heap.size
  | .dead => True
  | _ => W0.heap.size ≤ l.blk
theorem Side.of {W0 : World} {l : Loc} {x : Blk} (hx : x.alive) (h : W0.heap.size ≤ l.blk) : Side W0 l x := by
  cases x <;> first | exact h | exact hx.elim
theorem Side.le {W0 : World} {l : Loc} {x : Blk} (hx : x.alive) (h : Side W0 l x) : W0.heap.size ≤ l.blk := by
  cases x <;> first | exact h | exact hx.elim
/-- A row that was appended to, and one that came of it. -/
def Under (b : Nat) (x : Blk) (l : Loc) (x' : Blk) (l' : Loc) : Prop :=
  match x, x' with
  | .row c _ _ next _, .row c' _ _ _ anc' => next = true ∧ b ∈ anc' ∧ l.off + c.length ≤ l'.off + c'.length
  | _, _ => False
structure Rel (W0 : World) (ρ : Rho) (s : St) (w : World) : Prop where
  below : Below W0.heap.size W0 w
  blk : ∀ b x, s.get b = some x → b < s.size ∧ ∃ l, ρ b = some l ∧ Side W0 l x ∧ l.blk < w.heap.size ∧ BOK ρ w l x
  fresh : ∀ b, s.size ≤ b → ρ b = none
  dis : ∀ b b' x x' l l', s.get b = some x → s.get b' = some x' → x.alive → x'.alive → ρ b = some l → ρ b' = some l' → b ≠ b' → l.blk = l'.blk → Under b x l x' l' ∨ Under b' x' l' x l
def Img (ρ : Rho) (s : St) (r : Nat) : Prop := ∃ b x l, s.get b = some x ∧ x.alive ∧ ρ b = some l ∧ l.blk = r
/-- What a part of a run does. -/
structure Step (W0 : World) (ρ : Rho) (s : St) (w : World) (ρ' : Rho) (s' : St) (w' : World) : Prop where
  le : ρ.le ρ'
  rel : Rel W0 ρ' s' w'
  size : s.size ≤ s'.size
  wsize : w.heap.size ≤ w'.heap.size
  keeps : ∀ r, r < w.heap.size → ¬ Img ρ s r → w'.heap[r]? = w.heap[r]?
  img : ∀ r, r < w.heap.size → Img ρ' s' r → Img ρ s r
  hole : ∀ b, b < s.size → s.get b = none → s'.get b = none
  unborn : ∀ b, b < s.size → ρ b = none → ρ' b = none
  stay : ∀ b y, s.get b = some y → ∃ z, s'.get b = some z
theorem Step.refl {W0 : World} {ρ : Rho} {s : St} {w : World} (h : Rel W0 ρ s w) : Step W0 ρ s w ρ s w :=
  ⟨ρ.le_refl, h, Nat.le_refl _, Nat.le_refl _, fun _ _ _ => rfl, fun _ _ h => h, fun _ _ h => h, fun _ _ h => h, fun _ y h => ⟨y, h⟩⟩
theorem Step.trans {W0 : World} {ρ ρ1 ρ2 : Rho} {s s1 s2 : St} {w w1 w2 : World} (h : Step W0 ρ s w ρ1 s1 w1) (k : Step W0 ρ1 s1 w1 ρ2 s2 w2) : Step W0 ρ s w ρ2 s2 w2 :=
  ⟨Rho.le_trans h.le k.le, k.rel, Nat.le_trans h.size k.size, Nat.le_trans h.wsize k.wsize,
   fun r hr hi => (k.keeps r (Nat.lt_of_lt_of_le hr h.wsize) (fun hj => hi (h.img r hr hj))).trans (h.keeps r hr hi),
   fun r hr hi => h.img r hr (k.img r (Nat.lt_of_lt_of_le hr h.wsize) hi),
   fun b hb hn => k.hole b (Nat.lt_of_lt_of_le hb h.size) (h.hole b hb hn),
   fun b hb hn => k.unborn b (Nat.lt_of_lt_of_le hb h.size) (h.unborn b hb hn),
   fun b y hy => (h.stay b y hy).elim fun z hz => k.stay b z hz⟩
theorem Below.draw {B : Nat} {W0 w w' : World} (h : Below B W0 w) (he : w'.heap = w.heap) (ht : w'.tape = w.tape) (ho : w'.os = w.os) (hu : w'.output = w.output) : Below B W0 w' :=
  ⟨ho.trans h.os, ht.trans h.tape, hu.trans h.output, by rw [he]; exact h.size, fun k hk => by rw [he]; exact h.block k hk⟩
theorem Rel.draw {W0 : World} {ρ : Rho} {s : St} {w w' : World} (h : Rel W0 ρ s w) (he : w'.heap = w.heap) (ht : w'.tape = w.tape) (ho : w'.os = w.os) (hu : w'.output = w.output) : Rel W0 ρ s w' :=
  ⟨Below.draw h.below he ht ho hu, fun b x hb => (h.blk b x hb).imp id fun ⟨l, h1, h2, h3, h4⟩ => ⟨l, h1, h2, by rw [he]; exact h3, h4.world (by rw [he])⟩, h.fresh, h.dis⟩
theorem Step.draw {W0 : World} {ρ : Rho} {s : St} {w w' : World} (h : Rel W0 ρ s w) (he : w'.heap = w.heap) (ht : w'.tape = w.tape) (ho : w'.os = w.os) (hu : w'.output = w.output) : Step W0 ρ s w ρ s w' :=
  ⟨ρ.le_refl, h.draw he ht ho hu, Nat.le_refl _, by rw [he]; exact Nat.le_refl _, fun _ _ _ => by rw [he], fun _ _ h => h, fun _ _ h => h, fun _ _ h => h, fun _ y h => ⟨y, h⟩⟩

theorem St.get_put (s : St) (b : Nat) (x : Blk) (b' : Nat) : (s.put b x).get b' = if b' = b then some x else s.get b' := Tr.get_set _ _ _ _
theorem St.size_put (s : St) (b : Nat) (x : Blk) : (s.put b x).size = s.size := rfl
theorem St.get_alloc (s : St) (x : Blk) (b' : Nat) : (s.alloc x).get b' = if b' = s.size then some x else s.get b' := Tr.get_set _ _ _ _
theorem St.size_alloc (s : St) (x : Blk) : (s.alloc x).size = s.size + 1 := rfl
def Rho.upd (ρ : Rho) (b : Nat) (l : Loc) : Rho := fun b' => if b' = b then some l else ρ b'
theorem Rho.upd_same (ρ : Rho) (b : Nat) (l : Loc) : ρ.upd b l b = some l := by simp [Rho.upd]
theorem Rho.upd_other (ρ : Rho) {b b' : Nat} (l : Loc) (h : b' ≠ b) : ρ.upd b l b' = ρ b' := by simp [Rho.upd, h]
theorem Rho.le_upd {ρ : Rho} {b : Nat} (l : Loc) (h : ρ b = none) : ρ.le (ρ.upd b l) := fun b' l' e => by
  by_cases hb : b' = b
  · subst hb; rw [h] at e; cases e
  · rw [Rho.upd_other _ _ hb]; exact e

/-- A block that lies apart from all others, or came of some, becomes known. -/
theorem Rel.add' {W0 : World} {ρ : Rho} {s : St} {w : World} (h : Rel W0 ρ s w) {id : Nat} {l : Loc} {x : Blk} (hid : id < s.size) (hl : ρ id = some l) (hB : Side W0 l x) (hlt : l.blk < w.heap.size)
    (hap : ∀ c y m, c ≠ id → s.get c = some y → y.alive → ρ c = some m → m.blk = l.blk → Under c y m x l) (hx : BOK ρ w l x) : Rel W0 ρ (s.put id x) w where
  below := h.below
  blk b y hb := by
    rw [St.get_put] at hb
    by_cases e : b = id
    · rw [if_pos e] at hb; injection hb with hb; subst hb; subst e
      exact ⟨hid, l, hl, hB, hlt, hx⟩
    · rw [if_neg e] at hb; exact h.blk b y hb
  fresh := h.fresh
  dis b b' y y' m m' hb hb' ha ha' hm hm' hne hblk := by
    rw [St.get_put] at hb hb'
    by_cases e : b = id
    · subst e
      rw [hl] at hm; injection hm with hm; subst hm
      rw [if_neg (Ne.symm hne)] at hb'
      rw [if_pos rfl] at hb; injection hb with hb; subst hb
      exact Or.inr (hap b' y' m' (Ne.symm hne) hb' ha' hm' hblk.symm)
    · rw [if_neg e] at hb
      by_cases e' : b' = id
      · subst e'
        rw [hl] at hm'; injection hm' with hm'; subst hm'
        rw [if_pos rfl] at hb'; injection hb' with hb'; subst hb'
        exact Or.inl (hap b y m e hb ha hm hblk)
      · rw [if_neg e'] at hb'
        exact h.dis b b' y y' m m' hb hb' ha ha' hm hm' hne hblk
/-- A block that lies apart from all others becomes known. -/
theorem Rel.add {W0 : World} {ρ : Rho} {s : St} {w : World} (h : Rel W0 ρ s w) {id : Nat} {l : Loc} {x : Blk} (hid : id < s.size) (_ : s.get id = none) (hl : ρ id = some l) (hB : Side W0 l x) (hlt : l.blk < w.heap.size)
    (hap : ¬ Img ρ s l.blk) (hx : BOK ρ w l x) : Rel W0 ρ (s.put id x) w :=
  h.add' hid hl hB hlt (fun c y m _ hc hy hm e => absurd ⟨c, y, m, hc, hy, hm, e⟩ hap) hx
theorem Rel.lt {W0 : World} {ρ : Rho} {s : St} {w : World} (h : Rel W0 ρ s w) {r : Nat} (hi : Img ρ s r) : r < w.heap.size := by
  obtain ⟨b, x, l, hb, _, hl, rfl⟩ := hi
  obtain ⟨_, l', hl', _, hlt, _⟩ := h.blk b x hb
  rw [hl] at hl'; injection hl' with e; rw [e]; exact hlt
/-- A new block of the program, of which nothing is told. -/
theorem Rel.grow {W0 : World} {ρ : Rho} {s : St} {w : World} (h : Rel W0 ρ s w) (o : Obj) : Rel W0 ρ s (w.alloc o) where
  below := h.below.alloc h.below.size o
  blk b x hb := by
    obtain ⟨h0, l, h1, h2, h3, h4⟩ := h.blk b x hb
    exact ⟨h0, l, h1, h2, by simp; omega, h4.world (heap_alloc_old w o _ h3)⟩
  fresh := h.fresh
  dis := h.dis
/-- A number gets its place. -/
theorem Rel.place {W0 : World} {ρ : Rho} {s : St} {w : World} (h : Rel W0 ρ s w) {id n : Nat} (l : Loc) (hn : ρ id = none) (hg : s.get id = none) (hid : id < n) (hs : s.size ≤ n) : Rel W0 (ρ.upd id l) ⟨s.mem, n⟩ w where
  below := h.below
  blk b x hb := by
    obtain ⟨h0, m, h1, h2, h3, h4⟩ := h.blk b x hb
    have hne : b ≠ id := fun e => by
      subst e
      have : s.get b = some x := hb
      rw [hg] at this; cases this
    exact ⟨Nat.lt_of_lt_of_le h0 hs, m, by rw [Rho.upd_other _ _ hne]; exact h1, h2, h3, h4.mono (Rho.le_upd l hn)⟩
  fresh b hb := by
    have hb : n ≤ b := hb
    rw [Rho.upd_other _ _ (by omega)]; exact h.fresh b (by omega)
  dis b b' x x' m m' hb hb' ha ha' hm hm' hne hblk := by
    have ne : ∀ c y, s.get c = some y → c ≠ id := fun c y hc e => by subst e; rw [hg] at hc; cases hc
    rw [Rho.upd_other _ _ (ne b x hb)] at hm
    rw [Rho.upd_other _ _ (ne b' x' hb')] at hm'
    exact h.dis b b' x x' m m' hb hb' ha ha' hm hm' hne hblk

/-- A new block. -/
theorem Step.alloc {W0 : World} {ρ : Rho} {s : St} {w : World} (h : Rel W0 ρ s w) (x : Blk) (o : Obj) (cap : Nat) (hal : x.alive) (hx : BOK (ρ.upd s.size ⟨w.heap.size, 0, cap⟩) (w.alloc o) ⟨w.heap.size, 0, cap⟩ x) :
    Step W0 ρ s w (ρ.upd s.size ⟨w.heap.size, 0, cap⟩) (s.alloc x) (w.alloc o) := by
  have hn : ρ s.size = none := h.fresh _ (Nat.le_refl _)
  have hg : s.get s.size = none := by
    cases hg : s.get s.size with
    | none => rfl
    | some y => have := (h.blk _ _ hg).1; omega
  have hle := Rho.le_upd (ρ := ρ) (b := s.size) ⟨w.heap.size, 0, cap⟩ hn
  have h1 := (h.grow o).place (id := s.size) (n := s.size + 1) ⟨w.heap.size, 0, cap⟩ hn hg (by omega) (by omega)
  have hap : ¬ Img (ρ.upd s.size ⟨w.heap.size, 0, cap⟩) ⟨s.mem, s.size + 1⟩ w.heap.size := by
    rintro ⟨b, y, l, hb, _, hl, hr⟩
    have hb : s.get b = some y := hb
    obtain ⟨h0, m, h2, _, h3, _⟩ := h.blk b y hb
    rw [Rho.upd_other _ _ (by omega)] at hl
    rw [hl] at h2; injection h2 with e; rw [← e] at h3; omega
  have h2 := h1.add (id := s.size) (l := ⟨w.heap.size, 0, cap⟩) (x := x) (by show s.size < s.size + 1; omega) hg (Rho.upd_same _ _ _) (Side.of hal h.below.size) (by simp) hap hx
  have himg : ∀ r, r < w.heap.size → Img (ρ.upd s.size ⟨w.heap.size, 0, cap⟩) (s.alloc x) r → Img ρ s r := by
    rintro r hr ⟨b, y, l, hb, ha, hl, hlr⟩
    rw [St.get_alloc] at hb
    by_cases e : b = s.size
    · subst e
      rw [Rho.upd_same] at hl; injection hl with hl; subst hl
      simp at hlr; omega
    · rw [if_neg e] at hb
      rw [Rho.upd_other _ _ e] at hl
      exact ⟨b, y, l, hb, ha, hl, hlr⟩
  exact ⟨hle, h2, by rw [St.size_alloc]; omega, by simp, fun r hr _ => heap_alloc_old w o r hr, himg,
    fun b hb hn => by rw [St.get_alloc, if_neg (by omega)]; exact hn, fun b hb hn => by rw [Rho.upd_other _ _ (by omega)]; exact hn,
    fun b y hy => by rw [St.get_alloc]; by_cases e : b = s.size <;> simp [e, hy] ; first | done | (rw [if_neg e]; exact ⟨y, hy⟩)⟩

/-- What stands in a block is turned; what may share its cells is of no more use. -/
theorem Step.write {W0 : World} {ρ : Rho} {s s' : St} {w w' : World} (h : Rel W0 ρ s w) {b : Nat} {x x' : Blk} {l : Loc} (hb : s.get b = some x) (hx : x.alive) (hx' : x'.alive) (hl : ρ b = some l)
    (hsz : s'.size = s.size) (hget : ∀ c, c ≠ b → s'.get c = s.get c ∨ (s'.get c = some .dead ∧ ∃ y, s.get c = some y)) (hb' : s'.get b = some x')
    (hbel : Below W0.heap.size W0 w') (hws : w'.heap.size = w.heap.size) (hw : ∀ r, r ≠ l.blk → w'.heap[r]? = w.heap[r]?) (hok : BOK ρ w' l x')
    (hund : ∀ c y m, c ≠ b → s'.get c = some y → y.alive → ρ c = some m → m.blk = l.blk → (Under c y m x' l ∨ Under b x' l y m) ∧ BOK ρ w' m y) :
    Step W0 ρ s w ρ s' w' := by
  have hback : ∀ c y, s'.get c = some y → c ≠ b → y.alive → s.get c = some y := fun c y hc hne hy => by
    rcases hget c hne with e | ⟨e, _⟩
    · rw [← e]; exact hc
    · rw [e] at hc; injection hc with hc; subst hc; exact hy.elim
  have hex : ∀ c y, s'.get c = some y → ∃ z, s.get c = some z := fun c y hc => by
    by_cases e : c = b
    · subst e; exact ⟨x, hb⟩
    · rcases hget c e with e' | ⟨_, z, hz⟩
      · exact ⟨y, by rw [← e']; exact hc⟩
      · exact ⟨z, hz⟩
  have hrel : Rel W0 ρ s' w' := by
    refine ⟨hbel, ?_, ?_, ?_⟩
    · intro c y hc
      obtain ⟨z, hz⟩ := hex c y hc
      obtain ⟨h0, m, h1, h2, h3, h4⟩ := h.blk c z hz
      have hside : Side W0 m y := by
        by_cases e : c = b
        · subst e
          rw [hb'] at hc; injection hc with hc; subst hc
          rw [hb] at hz; injection hz with hz; subst hz
          exact Side.of hx' (Side.le hx h2)
        · rcases hget c e with e' | ⟨e', _⟩
          · rw [e', hz] at hc; injection hc with hc; subst hc; exact h2
          · rw [e'] at hc; injection hc with hc; subst hc; trivial
      refine ⟨by rw [hsz]; exact h0, m, h1, hside, by rw [hws]; exact h3, ?_⟩
      by_cases e : c = b
      · subst e
        rw [hb'] at hc; injection hc with hc; subst hc
        rw [hl] at h1; injection h1 with h1; subst h1
        exact hok
      · by_cases hy : y.alive
        · have hz' := hback c y hc e hy
          rw [hz'] at hz; injection hz with hz; subst hz
          by_cases hbk : m.blk = l.blk
          · exact (hund c y m e hc hy h1 hbk).2
          · exact h4.world (hw _ hbk)
        · cases y with
          | ro cs =>
            rcases hget c e with e' | ⟨e', _⟩
            · rw [e', hz] at hc; injection hc with hc; subst hc
              exact h4.world ((hbel.block _ hside).trans (h.below.block _ hside).symm)
            · rw [e'] at hc; cases hc
          | dead => trivial
          | _ => exact absurd trivial hy
    · intro c hc; exact h.fresh c (by rw [← hsz]; exact hc)
    · intro c c' y y' m m' hc hc' ha ha' hm hm' hne hblk
      by_cases e : c = b
      · subst e
        rw [hb'] at hc; injection hc with hc; subst hc
        rw [hl] at hm; injection hm with hm; subst hm
        exact (hund c' y' m' (Ne.symm hne) hc' ha' hm' hblk.symm).1.symm
      · by_cases e' : c' = b
        · subst e'
          rw [hb'] at hc'; injection hc' with hc'; subst hc'
          rw [hl] at hm'; injection hm' with hm'; subst hm'
          exact (hund c y m hne hc ha hm hblk).1
        · exact h.dis c c' y y' m m' (hback c y hc e ha) (hback c' y' hc' e' ha') ha ha' hm hm' hne hblk
  have himg : ∀ r, Img ρ s' r → Img ρ s r := by
    rintro r ⟨c, y, m, hc, ha, hm, hr⟩
    by_cases e : c = b
    · subst e
      exact ⟨c, x, m, hb, hx, hm, hr⟩
    · exact ⟨c, y, m, hback c y hc e ha, ha, hm, hr⟩
  exact ⟨ρ.le_refl, hrel, by rw [hsz]; omega, by rw [hws]; omega, fun r _ hi => hw r (fun e => hi (by rw [e]; exact ⟨b, x, l, hb, hx, hl, rfl⟩)), fun r _ hi => himg r hi,
    (fun c _ hn => (by
      cases hc : s'.get c with
      | none => rfl
      | some y => obtain ⟨z, hz⟩ := hex c y hc; rw [hn] at hz; cases hz)),
    fun _ _ hn => hn,
    fun c y hy => (by
      by_cases e : c = b
      · subst e; exact ⟨x', hb'⟩
      · rcases hget c e with e' | ⟨e', _⟩
        · exact ⟨y, e'.trans hy⟩
        · exact ⟨_, e'⟩)⟩

theorem EL.choose {ρ : Rho} : ∀ {vs : List V} {Q : Nat → Value → Prop}, (∀ (i : Nat) (v : V), vs[i]? = some v → ∃ u, Q i u ∧ E ρ v u) → ∃ us : List Value, EL ρ vs us ∧ us.length = vs.length ∧ ∀ (i : Nat) (u : Value), us[i]? = some u → Q i u
  | [], Q, _ => ⟨[], EL.nil, rfl, fun i u h => by simp at h⟩
  | v :: vs, Q, h => by
    obtain ⟨u, hu, he⟩ := h 0 v rfl
    obtain ⟨us, h1, h2, h3⟩ := EL.choose (vs := vs) (Q := fun i => Q (i + 1)) fun i v' hv => h (i + 1) v' (by simpa using hv)
    refine ⟨u :: us, EL.cons he h1, by simp [h2], fun i u' hi => ?_⟩
    cases i with
    | zero => have : u = u' := by simpa using hi
              exact this ▸ hu
    | succ i => exact h3 i u' (by simpa using hi)
/-- Cells that are read. -/
theorem cells_ok {W0 : World} {ρ : Rho} {s : St} {w : World} (h : Rel W0 ρ s w) {b off n : Nat} {c : List V} {l : Loc} (hl : ρ b = some l) (hc : s.cells b off n = .ok c) :
    ∃ us : List Value, EL ρ c us ∧ us.length = n ∧ ∀ (j : Nat) (u : Value), us[j]? = some u → w.cell? ((⟨l.blk, l.off + off, none⟩ : Addr).add j) = some u := by
  unfold St.cells at hc
  split at hc
  · rename_i cs ty hb
    obtain ⟨_, l', hl', _, _, hok⟩ := h.blk b _ hb
    rw [hl] at hl'; injection hl' with e; subst e
    obtain ⟨h0, us, h1, h2⟩ := hok
    have hlen := cut_len hc
    rw [cut_eq hc] at hlen ⊢
    have hE := (h2.drop off).take n
    refine ⟨(us.drop off).take n, hE, by rw [hE.len]; exact hlen, fun j u hu => ?_⟩
    rw [Addr_add, cell_of_row w l.blk _ _ _ _ h1, h0]
    rw [List.getElem?_take] at hu
    split at hu
    · rw [List.getElem?_drop] at hu; simpa [Nat.add_assoc] using hu
    · cases hu
  · rename_i cs ty sz next anc hb
    obtain ⟨_, l', hl', _, _, hok⟩ := h.blk b _ hb
    rw [hl] at hl'; injection hl' with e; subst e
    obtain ⟨us, ty', h1, h2, h3, h4⟩ := hok
    have hlen := cut_len hc
    have hsp := cut_spec hc
    rw [cut_eq hc] at hlen ⊢
    have hle : l.off + cs.length ≤ us.length := by omega
    have hE : EL ρ ((cs.drop off).take n) ((us.drop (l.off + off)).take n) := by
      refine EL.of_at ?_ ?_
      · rw [hlen]; simp; omega
      · intro i v hi
        rw [List.getElem?_take] at hi
        split at hi
        · rename_i hin
          rw [List.getElem?_drop] at hi
          obtain ⟨u, hu, he⟩ := h2 _ _ hi
          exact ⟨u, by rw [List.getElem?_take, if_pos hin, List.getElem?_drop, Nat.add_assoc]; exact hu, he⟩
        · cases hi
    refine ⟨_, hE, by rw [hE.len]; exact hlen, fun j u hu => ?_⟩
    rw [Addr_add, cell_of_row w l.blk _ _ _ _ h1]
    rw [List.getElem?_take] at hu
    split at hu
    · rw [List.getElem?_drop] at hu; simpa using hu
    · cases hu
  · rename_i cs hb
    obtain ⟨_, l', hl', _, _, hok⟩ := h.blk b _ hb
    rw [hl] at hl'; injection hl' with e; subst e
    have hlen := cut_len hc
    have hsp := cut_spec hc
    rw [cut_eq hc] at hlen ⊢
    obtain ⟨us, h1, h2, h3⟩ := EL.choose (ρ := ρ) (Q := fun i u => w.cell? ⟨l.blk, l.off + off + i, none⟩ = some u) (vs := (cs.drop off).take n) fun i v hv => by
      rw [List.getElem?_take] at hv
      split at hv
      · rw [List.getElem?_drop] at hv
        obtain ⟨u, hu, he⟩ := hok _ _ hv
        exact ⟨u, by rw [Nat.add_assoc]; exact hu, he⟩
      · cases hv
    exact ⟨us, h1, h2.trans hlen, fun j u hu => by rw [Addr_add]; exact h3 j u hu⟩
  · cases hc
  · cases hc
theorem run_cells {W0 : World} {ρ : Rho} {s : St} {w : World} (h : Rel W0 ρ s w) {b off n : Nat} {c : List V} {l : Loc} (hl : ρ b = some l) (hc : s.cells b off n = .ok c) :
    ∃ us : List Value, EL ρ c us ∧ us.length = n ∧ (loadCells ⟨l.blk, l.off + off, none⟩ n).run P w = .ok us.toArray w := by
  obtain ⟨us, h1, h2, h3⟩ := cells_ok h hl hc
  refine ⟨us, h1, h2, ?_⟩
  rw [← h2]
  exact run_loadCells_list w _ us h3

def ReadOK (P : Program) (o : Oper) (f : Fr → St → M V) : Prop :=
  ∀ (W0 : World) (ρ : Rho) (s : St) (w : World) (t : Fr) (a : Act) (v : V), Rel W0 ρ s w → FrE ρ t a.tmps → f t s = .ok v → ∃ u, E ρ v u ∧ (execOp a.eval o).run P w = .ok (.value u) w

theorem one_ok {l : List V} {v : V} (h : one l = .ok v) : l = [v] := by
  unfold one at h
  split at h
  · injection h with h; rw [h]
  · cases h
theorem loadVar_ok {W0 : World} {ρ : Rho} {s : St} {w : World} (h : Rel W0 ρ s w) {ag : Bool} {n : Nat} {ty : TypeId} (ha : isAggT P ty = some ag) (hn : sizeT P ty = some n) {b off : Nat} {v : V} {l : Loc} (hl : ρ b = some l)
    (hv : (match ag with | true => (s.cells b off n).bind fun c => .ok (.agg c) | false => (s.cells b off 1).bind one : M V) = .ok v) :
    ∃ u, E ρ v u ∧ (loadVar ty ⟨l.blk, l.off + off, none⟩).run P w = .ok u w := by
  cases ag
  · obtain ⟨c, h1, h2⟩ := M.bind_ok hv
    have := one_ok h2; subst this
    obtain ⟨us, h3, h4, h5⟩ := cells_ok h hl h1
    obtain ⟨u, r, rfl, h6, h7⟩ := EL.cons_inv h3
    refine ⟨u, h6, ?_⟩
    have h8 := h5 0 u rfl
    rw [Addr_add, Nat.add_zero] at h8
    simp [loadVar, run_isAggT ha, h8]
  · obtain ⟨c, h1, h2⟩ := M.bind_ok hv
    injection h2 with h2; subst h2
    obtain ⟨us, h3, h4, h5⟩ := run_cells (P := P) h hl h1
    refine ⟨.agg us.toArray, by simp only [E]; exact ⟨us, rfl, h3⟩, ?_⟩
    simp [loadVar, run_isAggT ha, run_sizeT hn, h5]
theorem gLoad_ok {o : Oper} {ty : TypeId} {x : Operand} (ho : o.op = .load ty x) {g : Fr → St → M V} (h : fLoad P ty x = .read g) : ReadOK P o g := by
  obtain ⟨ag, ha, h⟩ := orBad_read h
  obtain ⟨n, hn, h⟩ := orBad_read h
  injection h with h; subst h
  intro W0 ρ s w t a v hR hf h
  unfold gLoad at h
  obtain ⟨b, h1, h⟩ := M.bind_ok h
  have e1 := ev_ok hf h1
  split at h
  · simp only [E] at e1; obtain ⟨l, hl, hx⟩ := e1
    obtain ⟨u, hE, hr⟩ := loadVar_ok (P := P) (v := v) hR ha hn hl (by cases ag <;> exact h)
    refine ⟨u, hE, ?_⟩
    simp only [execOp, ho]
    refine run_value ?_
    simp [Instr.loadAt, hx, Instr.sureAddr, hr]
  · cases h
  · cases h
/-- The program makes a block of which the interpreter knows nothing. -/
theorem Step.grow {W0 : World} {ρ : Rho} {s : St} {w : World} (h : Rel W0 ρ s w) (o : Obj) : Step W0 ρ s w ρ s (w.alloc o) :=
  ⟨ρ.le_refl, h.grow o, Nat.le_refl _, by simp, fun r hr _ => heap_alloc_old w o r hr, fun _ _ h => h, fun _ _ h => h, fun _ _ h => h, fun _ y h => ⟨y, h⟩⟩
/-- Marks: the blocks for what rounds put off; they hold nothing. -/
def markD (D : Nat) : Deferred := { target := .collected D, args := #[] }
def Dfr (B : Nat) (ρ : Rho) (s : St) (w : World) (ds : List Deferred) : Prop :=
  ∃ rs : List Nat, ds = rs.map markD ∧ rs.Pairwise (· ≠ ·) ∧ ∀ D ∈ rs, B ≤ D ∧ D < w.heap.size ∧ ¬ Img ρ s D ∧ w.heap[D]? = some (.deferred (some []))
theorem Dfr.nil {B : Nat} {ρ : Rho} {s : St} {w : World} : Dfr B ρ s w [] := ⟨[], rfl, List.Pairwise.nil, fun _ h => by cases h⟩
theorem Dfr.step {W0 : World} {B : Nat} {ρ ρ' : Rho} {s s' : St} {w w' : World} {ds : List Deferred} (h : Dfr B ρ s w ds) (hs : Step W0 ρ s w ρ' s' w') : Dfr B ρ' s' w' ds := by
  obtain ⟨rs, h1, h2, h3⟩ := h
  refine ⟨rs, h1, h2, fun D hD => ?_⟩
  obtain ⟨k1, k2, k3, k4⟩ := h3 D hD
  exact ⟨k1, Nat.lt_of_lt_of_le k2 hs.wsize, fun hi => k3 (hs.img D k2 hi), (hs.keeps D k2 k3).trans k4⟩
theorem Dfr.cons {B : Nat} {ρ : Rho} {s : St} {w : World} {ds : List Deferred} (h : Dfr B ρ s w ds) {w' : World} {ρ' : Rho} {s' : St} (hs : ∀ rs, Dfr B ρ s w rs → Dfr B ρ' s' w' rs) {D : Nat} (hB : B ≤ D) (hD : w.heap.size ≤ D) (hi : ¬ Img ρ' s' D) (hw : w'.heap[D]? = some (.deferred (some []))) : Dfr B ρ' s' w' (markD D :: ds) := by
  obtain ⟨rs, h1, h2, h3⟩ := h
  obtain ⟨rs', k1, k2, k3⟩ := hs ds ⟨rs, h1, h2, h3⟩
  have inj : ∀ {l l' : List Nat}, l.map markD = l'.map markD → l = l' := fun {l l'} e => by
    induction l generalizing l' with
    | nil => cases l' with | nil => rfl | cons _ _ => cases e
    | cons a l ih => cases l' with
      | nil => cases e
      | cons b l' =>
        simp only [List.map_cons, List.cons.injEq] at e
        have hab : a = b := by have := e.1; simp only [markD, Deferred.mk.injEq, Target.collected.injEq, and_true] at this; exact this
        rw [hab, ih e.2]
  have e : rs' = rs := inj (k1.symm.trans h1)
  subst e
  refine ⟨D :: rs', by rw [h1]; rfl, List.Pairwise.cons (fun x hx => ?_) h2, fun x hx => ?_⟩
  · have := (h3 x hx).2.1; omega
  · rcases List.mem_cons.1 hx with rfl | hx
    · exact ⟨hB, (Array.getElem?_eq_some_iff.1 hw).1, hi, hw⟩
    · exact k3 x hx
/-- Behind the end of a call whose marks have been taken. -/
theorem Step.taken {W0 : World} {ρ ρ' : Rho} {s s' : St} {w w' : World} (h : Step W0 ρ s w ρ' s' w') (hw : Rel W0 ρ s w) {D : Nat} (hD : w.heap.size ≤ D) (hi : ¬ Img ρ' s' D) (o : Obj) (hlt : D < w'.heap.size) : Step W0 ρ s w ρ' s' (w'.putObj D o) := by
  have hoth : ∀ k, k ≠ D → (w'.putObj D o).heap[k]? = w'.heap[k]? := fun k hk => World.putObj_heap_other hk
  have hsz : (w'.putObj D o).heap.size = w'.heap.size := by simp [World.putObj]
  have hr := h.rel
  have hW : W0.heap.size ≤ w.heap.size := hw.below.size
  have hbel : Below W0.heap.size W0 (w'.putObj D o) := ⟨hr.below.os, hr.below.tape, hr.below.output, by rw [hsz]; exact hr.below.size, fun k hk => (hoth k (by omega)).trans (hr.below.block k hk)⟩
  refine ⟨h.le, ⟨hbel, fun b x hb => ?_, hr.fresh, hr.dis⟩, h.size, by rw [hsz]; exact h.wsize, fun r hr hn => (hoth r (by omega)).trans (h.keeps r hr hn), h.img, h.hole, h.unborn, h.stay⟩
  obtain ⟨h0, l, h1, h2, h3, h4⟩ := hr.blk b x hb
  refine ⟨h0, l, h1, h2, by rw [hsz]; exact h3, ?_⟩
  by_cases ha : x.alive
  · exact h4.world (hoth _ fun e => hi ⟨b, x, l, hb, ha, h1, e⟩)
  · cases x with
    | ro cs => exact h4.world (hoth _ (by have h2 : l.blk < W0.heap.size := h2; omega))
    | dead => trivial
    | _ => exact absurd trivial ha
/-- Whose round it is. -/
def RndE (ρ : Rho) : Option Nat → Option Nat → Prop
  | none, none => True
  | some b, some l => ∃ m, ρ b = some m ∧ m.blk = l
  | _, _ => False
theorem RndE.mono {ρ ρ' : Rho} (h : ρ.le ρ') {b r : Option Nat} (k : RndE ρ b r) : RndE ρ' b r := by
  cases b <;> cases r <;> simp only [RndE] at k ⊢
  obtain ⟨m, h1, h2⟩ := k
  exact ⟨m, h _ _ h1, h2⟩
/-- A frame, its marks, and whose round it is. -/
def FrA (B : Nat) (r : Option Nat) (ρ : Rho) (s : St) (w : World) (t : Fr) (a : Act) : Prop := FrE ρ t a.tmps ∧ Dfr B ρ s w a.defers ∧ RndE ρ t.r r
theorem FrA.step {W0 : World} {B : Nat} {r : Option Nat} {ρ ρ' : Rho} {s s' : St} {w w' : World} {t : Fr} {a : Act} (h : FrA B r ρ s w t a) (hs : Step W0 ρ s w ρ' s' w') : FrA B r ρ' s' w' t a :=
  ⟨h.1.mono hs.le, h.2.1.step hs, h.2.2.mono hs.le⟩
end Go.Clo
