/- Layer 2: joins of finds. -/
import Derived.Test.YtilfiadkhohfiaaGreatDoorPr
import Derived.Test.YtilfiadkhohfiaaGreatDoorPd
import Derived.Test.YtilfiadkhohfiaaGreatDoorPh
/- Layer 2: joins of finds, in runs. -/
/- Lists of measurements, sorted by their kinds: one put in its place, and two lists joined, the package's way and the specification's. Plain mathematics. -/
namespace Go.Proofs.YtilfiadkhohfiaaGreatDoor
set_option linter.unusedSimpArgs false
set_option linter.unusedVariables false
open Go Go.RowKit Go.Clo
set_option linter.unusedSimpArgs false
set_option linter.unusedVariables false

/-- The first measurement of a kind. -/
def getM (l : List Mea) (k : Int) : Option Mea := l.find? fun x => decide (x.1 = k)
/-- The kinds grow, and are kinds. -/
def okL : Int → List Mea → Prop
  | _, [] => True
  | b, x :: l => b < x.1 ∧ x.1 ≤ 15 ∧ okL x.1 l
/-- The specification's way: kind by kind. -/
def byKind (f : Int → Option Mea) : List Mea := (List.range 16).filterMap fun (k : Nat) => f (k : Int)

theorem getM_cons (x : Mea) (l : List Mea) (k : Int) : getM (x :: l) k = if x.1 = k then some x else getM l k := by
  unfold getM
  rw [List.find?_cons]
  by_cases h : x.1 = k
  · rw [if_pos h]; simp [h]
  · rw [if_neg h]; simp [h]
theorem getM_nil (k : Int) : getM [] k = none := rfl
theorem getM_kind {l : List Mea} {k : Int} {m : Mea} (h : getM l k = some m) : m.1 = k := by
  have := List.find?_some h
  simpa using this
theorem getM_insM (m : Mea) (k : Int) : ∀ l : List Mea, getM (insM m l) k = if m.1 = k then some m else getM l k
  | [] => by unfold insM; rw [getM_cons, getM_nil]
  | x :: l => by
    unfold insM
    by_cases h : x.1 < m.1
    · rw [if_pos h, getM_cons, getM_insM m k l, getM_cons]
      by_cases h1 : x.1 = k
      · rw [if_pos h1, if_neg (by omega), if_pos h1]
      · rw [if_neg h1, if_neg h1]
    · rw [if_neg h]
      by_cases h1 : x.1 = m.1
      · rw [if_pos h1, getM_cons, getM_cons]
        by_cases h2 : m.1 = k
        · rw [if_pos h2, if_pos h2]
        · rw [if_neg h2, if_neg h2, if_neg (by omega)]
      · rw [if_neg h1, getM_cons]
theorem okM_mono {b b' : Int} (h : b' ≤ b) : ∀ {l : List Mea}, okL b l → okL b' l
  | [], _ => trivial
  | x :: l, h1 => ⟨by have := h1.1; omega, h1.2⟩
theorem okM_insM {m : Mea} (hm : m.1 ≤ 15) : ∀ {l : List Mea} {b : Int}, b < m.1 → okL b l → okL b (insM m l)
  | [], b, h, _ => ⟨h, hm, trivial⟩
  | x :: l, b, h, h1 => by
    unfold insM
    split
    · next hx => exact ⟨h1.1, h1.2.1, okM_insM hm hx h1.2.2⟩
    · split
      · next h2 => exact ⟨h, hm, h2 ▸ h1.2.2⟩
      · next h2 h3 => exact ⟨h, hm, by omega, h1.2.1, h1.2.2⟩
theorem getM_small {k : Int} : ∀ {l : List Mea} {b : Int}, okL b l → k ≤ b → getM l k = none
  | [], _, _, _ => rfl
  | x :: l, b, h, hk => by
    rw [getM_cons, if_neg (by have := h.1; omega)]
    exact getM_small h.2.2 (by have := h.1; omega)
theorem filterMap_same {α β : Type} {f g : α → Option β} : ∀ {l : List α}, (∀ x ∈ l, f x = g x) → l.filterMap f = l.filterMap g
  | [], _ => rfl
  | x :: l, h => by
    rw [List.filterMap_cons, List.filterMap_cons, h x (List.mem_cons_self ..), filterMap_same fun y hy => h y (List.mem_cons_of_mem _ hy)]
/-- A sorted list is what kind by kind lays. -/
theorem byKind_from : ∀ {l : List Mea} {b n : Nat}, okL ((b : Int) - 1) l → b + n = 16 → (List.range' b n).filterMap (fun (k : Nat) => getM l (k : Int)) = l
  | l, b, 0, h, hn => by
    cases l with
    | nil => rfl
    | cons x l => have := h.1; have := h.2.1; omega
  | l, b, n + 1, h, hn => by
    rw [List.range'_succ, List.filterMap_cons]
    cases l with
    | nil =>
      rw [getM_nil]
      exact byKind_from (l := []) (b := b + 1) (n := n) trivial (by omega)
    | cons x l =>
      rw [getM_cons]
      by_cases hx : x.1 = (b : Int)
      · rw [if_pos hx]
        have h2 := h.2.2
        rw [hx] at h2
        have e : (List.range' (b + 1) n).filterMap (fun (k : Nat) => getM (x :: l) (k : Int)) = (List.range' (b + 1) n).filterMap (fun (k : Nat) => getM l (k : Int)) := by
          apply filterMap_same
          intro k hk
          rw [getM_cons, if_neg (by have := List.mem_range'_1.1 hk; omega)]
        simp only []
        rw [e, byKind_from (l := l) (b := b + 1) (n := n) (by rw [show ((b + 1 : Nat) : Int) - 1 = b by omega]; exact h2) (by omega)]
      · rw [if_neg hx, getM_small h.2.2 (by have := h.1; omega)]
        exact byKind_from (l := x :: l) (b := b + 1) (n := n) ⟨by have := h.1; omega, h.2⟩ (by omega)
theorem byKind_self {l : List Mea} (h : okL (-1) l) : byKind (getM l) = l := by
  unfold byKind
  rw [List.range_eq_range']
  exact byKind_from (b := 0) (by simpa using h) rfl
/-- A measurement in its place: both ways are one. -/
theorem insM_byKind {l : List Mea} {m : Mea} (h : okL (-1) l) (h0 : 0 ≤ m.1) (h1 : m.1 ≤ 15) : insM m l = byKind fun k => if m.1 = k then some m else getM l k := by
  rw [← byKind_self (okM_insM h1 (by omega) h)]
  congr 1
  funext k
  exact getM_insM m k l

/-- What two measurements of one kind have in common. -/
def loM (x y : Mea) : Int := max (x.2.1 - x.2.2) (y.2.1 - y.2.2)
def hiM (x y : Mea) : Int := min (x.2.1 + x.2.2) (y.2.1 + y.2.2)
def bothM (x y : Mea) : Mea := (y.1, loM x y + (hiM x y - loM x y + 1) / 2, (hiM x y - loM x y + 1) / 2)
/-- The package's way: one after another. -/
def joinM (a : List Mea) : List Mea → List Mea → Option (List Mea)
  | l, [] => some l
  | l, m :: b => match getM a m.1 with
    | none => joinM a (insM m l) b
    | some x => if hiM x m < loM x m then none else joinM a (insM (bothM x m) l) b
/-- What of a kind is in the joined list. -/
def oneM (a b : List Mea) (k : Int) : Option Mea := match getM b k with
  | none => getM a k
  | some m => match getM a k with
    | none => some m
    | some x => some (bothM x m)
/-- Two measurements of one kind that have nothing in common. -/
def badM (a b : List Mea) (k : Int) : Bool := match getM a k, getM b k with
  | some x, some m => decide (hiM x m < loM x m)
  | _, _ => false
theorem joinM_run {a : List Mea} : ∀ {b l : List Mea} {c : Int}, okL c b → -1 ≤ c → okL (-1) l →
    ((∃ k, c < k ∧ k ≤ 15 ∧ badM a b k = true) ∧ joinM a l b = none) ∨
    ((∀ k, badM a b k = false) ∧ ∃ r, joinM a l b = some r ∧ okL (-1) r ∧ ∀ k, getM r k = match getM b k with
      | none => getM l k
      | some m => match getM a k with
        | none => some m
        | some x => some (bothM x m))
  | [], l, c, _, _, hl => by
    refine .inr ⟨fun k => ?_, l, rfl, hl, fun k => ?_⟩
    · unfold badM
      rw [getM_nil]
      cases getM a k <;> rfl
    · rw [getM_nil]
  | m :: b, l, c, hb, hc, hl => by
    have hm := hb.1
    have hm2 := hb.2.1
    cases hx : getM a m.1 with
    | none =>
      have hk : ∀ k, badM a (m :: b) k = badM a b k := fun k => by
        unfold badM
        rw [getM_cons]
        by_cases h : m.1 = k
        · rw [← h, hx]
        · rw [if_neg h]
      have hj : joinM a l (m :: b) = joinM a (insM m l) b := by conv => lhs; unfold joinM; rw [hx]
      rcases joinM_run (a := a) (b := b) (l := insM m l) (c := m.1) hb.2.2 (by omega) (okM_insM hm2 (by omega) hl) with ⟨⟨k, h1, h2, h3⟩, h4⟩ | ⟨h1, r, h2, h3, h4⟩
      · exact .inl ⟨⟨k, by omega, h2, by rw [hk]; exact h3⟩, by rw [hj]; exact h4⟩
      · refine .inr ⟨fun k => by rw [hk]; exact h1 k, r, by rw [hj]; exact h2, h3, fun k => ?_⟩
        rw [h4 k, getM_cons]
        by_cases h : m.1 = k
        · rw [if_pos h, ← h, getM_small hb.2.2 (Int.le_refl _), getM_insM, if_pos rfl, hx]
        · rw [if_neg h, getM_insM, if_neg h]
    | some x =>
      by_cases hbad : hiM x m < loM x m
      · refine .inl ⟨⟨m.1, hm, hm2, ?_⟩, ?_⟩
        · unfold badM
          rw [getM_cons, if_pos rfl, hx]
          exact decide_eq_true hbad
        · unfold joinM
          rw [hx]
          exact if_pos hbad
      · have hj : joinM a l (m :: b) = joinM a (insM (bothM x m) l) b := by conv => lhs; unfold joinM; rw [hx]; simp only []; rw [if_neg hbad]
        have hk : ∀ k, badM a (m :: b) k = badM a b k := fun k => by
          unfold badM
          rw [getM_cons]
          by_cases h : m.1 = k
          · rw [if_pos h, ← h, hx, getM_small hb.2.2 (Int.le_refl _)]
            exact decide_eq_false hbad
          · rw [if_neg h]
        rcases joinM_run (a := a) (b := b) (l := insM (bothM x m) l) (c := m.1) hb.2.2 (by omega) (okM_insM (m := bothM x m) hm2 (show (-1 : Int) < m.1 by omega) hl) with ⟨⟨k, h1, h2, h3⟩, h4⟩ | ⟨h1, r, h2, h3, h4⟩
        · exact .inl ⟨⟨k, by omega, h2, by rw [hk]; exact h3⟩, by rw [hj]; exact h4⟩
        · refine .inr ⟨fun k => by rw [hk]; exact h1 k, r, by rw [hj]; exact h2, h3, fun k => ?_⟩
          rw [h4 k, getM_cons]
          have e1 : (bothM x m).1 = m.1 := rfl
          by_cases h : m.1 = k
          · rw [if_pos h, ← h, getM_small hb.2.2 (Int.le_refl _), getM_insM, e1, if_pos rfl, hx]
          · rw [if_neg h, getM_insM, e1, if_neg h]
/-- Two lists joined: both ways are one. -/
theorem joinM_byKind {a b : List Mea} (ha : okL (-1) a) (hb : okL (-1) b) :
    joinM a a b = if (List.range 16).any (fun (k : Nat) => badM a b (k : Int)) = true then none else some (byKind (oneM a b)) := by
  rcases joinM_run (a := a) (b := b) (l := a) (c := -1) hb (Int.le_refl _) ha with ⟨⟨k, h1, h2, h3⟩, h4⟩ | ⟨h1, r, h2, h3, h4⟩
  · rw [if_pos, h4]
    rw [List.any_eq_true]
    refine ⟨k.toNat, List.mem_range.2 (by omega), ?_⟩
    rw [show ((k.toNat : Nat) : Int) = k by omega]
    exact h3
  · rw [if_neg, h2]
    · congr 1
      rw [← byKind_self h3]
      congr 1
      funext k
      rw [h4 k]
      rfl
    · rw [List.any_eq_true]
      rintro ⟨k, _, h⟩
      rw [h1] at h
      cases h
end Go.Proofs.YtilfiadkhohfiaaGreatDoor
/- Layer 2: joins of finds, in runs. -/
namespace Go.Proofs.YtilfiadkhohfiaaGreatDoor
set_option linter.unusedSimpArgs false
set_option linter.unusedVariables false
open Go Go.RowKit Go.Clo

variable {W0 : World}
theorem MeaAt.below {W w : World} {ms : Value} {oc : Option Nat} {l : List Mea} (h : MeaAt W ms oc l) (hb : Below W.heap.size W w) : MeaAt w ms oc l := by
  cases oc with
  | none => exact ⟨Nat.lt_of_lt_of_le h.1 hb.size, h.2⟩
  | some cap =>
    obtain ⟨b, o, e, hin⟩ := h
    exact ⟨b, o, e, hin.below hb⟩
/-- The call of withMeasure, for a run. -/
theorem good_wm (hmix : Tryz.prog.follows .mixedOrders = true) (hs0 : 0 < W0.heap.size) {i : Nat} {s : St} {oc : Option Nat} {l : List Mea} (m : Mea) (hg : s.get i = some (.ro (meaC l))) (ho : oc = none → l = []) (hr : Room oc l) (hk : Kinds l) (hm : 0 ≤ m.1 ∧ m.1 ≤ 15) (hn : l.length ≤ 15) :
    GoodM Tryz.prog W0 214 [mvOf i oc l, .agg [i64 m.1, i64 m.2.1, i64 m.2.2]] s (.sl s.size 0 (insM m l).length (.open_ 0)) (s.alloc (.row (meaC (insM m l)) 0 3 false [])) := by
  refine GoodM.row fun ρ w us hR he => ?_
  obtain ⟨ms, r1, rfl, h1, h2⟩ := EL.cons_inv he
  obtain ⟨mu, r2, rfl, h3, h4⟩ := EL.cons_inv h2
  obtain rfl := EL.nil_inv h4
  have hM := (meaAt_of hR hs0 ho hg h1).below hR.below
  have hmu : mu = meaVal m := by
    simp only [E] at h3
    obtain ⟨us, rfl, hl⟩ := h3
    obtain ⟨u1, r1, rfl, e1, hl⟩ := EL.cons_inv hl
    obtain ⟨u2, r2, rfl, e2, hl⟩ := EL.cons_inv hl
    obtain ⟨u3, r3, rfl, e3, hl⟩ := EL.cons_inv hl
    obtain rfl := EL.nil_inv hl
    rw [E_i64_inv e1, E_i64_inv e2, E_i64_inv e3]
    rfl
  subst hmu
  refine (withMeasure_any hmix m hM ho hr hk hm hn).mono ?_
  rintro e w' ⟨u, rfl, ⟨blk, off, cap, xs, ty, rfl, h5, h6, h7, h8, h9⟩, hb⟩
  exact ⟨blk, off, cap, xs, ty, rfl, h5, h6, h7, h8, h9, hb⟩
end Go.Proofs.YtilfiadkhohfiaaGreatDoor
/- Layer 2: joins of finds, in runs. -/
namespace Go.Proofs.YtilfiadkhohfiaaGreatDoor
set_option linter.unusedSimpArgs false
set_option linter.unusedVariables false
open Go Go.RowKit Go.Clo
noncomputable section
def loopOf : Code → Option Code
  | .loop b => some b
  | .seq a b => match loopOf a with | some c => some c | none => loopOf b
  | .scope b => loopOf b
  | .block _ b => loopOf b
  | _ => none
def body169 : Code := (((Tryz.prog.funcs[169]?).bind (·.body)).bind loopOf).getD .skip
/-- What withMeasure makes. -/
def wmT (l : List Mea) (f : FuncId) : Option (List V → Nat → V × Blk) := cond (Nat.beq f 214) (some fun args n => match args with
  | [_, .agg [.int _ k, .int _ v, .int _ e]] => (.sl n 0 (insM (k, v, e) l).length (.open_ 0), .row (meaC (insM (k, v, e) l)) 0 3 false [])
  | _ => (.nils, .dead)) none
def st3 (a b c : List V) : St := (((⟨.nil, 0⟩ : St).alloc (.ro a)).alloc (.ro b)).alloc (.ro c)
def blkOf (v : V) (s : St) : Option Blk := match v with | .sl b _ _ _ => s.get b | _ => none
def rndG (x : Ex) (t : Fr) (s : St) : Ex × Nat × List V × Option Blk := (x, t.n, [t.get 0, t.get 6, t.get 12, t.get 13, t.get 14, t.get 4, t.get 5], match x with | .normal => blkOf (t.get 6) s | _ => none)
/-- Cells of which nothing is told. -/
def anyP (j : Nat) : List V := Nat.rec [] (fun _ ih => .any :: .any :: .any :: ih) j
/-- The slots at the loop's head. -/
def hdL (a vl b : V) (nb j : Int) (d : Nat → V) : List V := [a, d 1, d 2, d 3, d 4, d 5, vl, d 7, d 8, d 9, d 10, d 11, b, i64 nb, i64 j, d 15, d 16, d 17, d 18, d 19, d 20, d 21, d 22, d 23, d 24, d 25, d 26, d 27, d 28, d 29, d 30, d 31, d 32, d 33, d 34, d 35, d 36, d 37, d 38, d 39, d 40, d 41, d 42, d 43, d 44, d 45, d 46, d 47, d 48, d 49, d 50, d 51, d 52, d 53, d 54, d 55, d 56, d 57]
/-- What two measurements have in common, as it is worked out. -/
def loI (x : Mea) : Int := fit .i64 (Int.sub x.2.1 x.2.2)
def hiI (x : Mea) : Int := fit .i64 (Int.add x.2.1 x.2.2)
def loB (x m : Mea) : Int := cond (intLt (loI x) (loI m)) (loI m) (loI x)
def hiB (x m : Mea) : Int := cond (intLt (hiI m) (hiI x)) (hiI m) (hiI x)
def widB (x m : Mea) : Int := fit .i64 (Int.add (fit .i64 (Int.sub (hiB x m) (loB x m))) 1)
def errB (x m : Mea) : Int := widB x m / .ofNat 2
def bothI (x m : Mea) : Mea := (m.1, fit .i64 (Int.add (loB x m) (errB x m)), errB x m)
def wmO2 (W0 : World) (vl : V) (vw : List (Option Blk)) (l : List Mea) (n : Nat) (m : Mea) : Bool :=
  goodM Tryz.prog W0 3 214 [vl, .agg [i64 m.1, i64 m.2.1, i64 m.2.2]] vw n (.sl n 0 (insM m l).length (.open_ 0)) (.row (meaC (insM m l)) 0 3 false [])
def rndE (W0 : World) (a vl b : V) (vw : List (Option Blk)) (l : List Mea) (nb j : Int) (d : Nat → V) (n : Nat) (m : Mea) : Option (Ex × Nat × List V × Option Blk) :=
  cond (wmO2 W0 vl vw l n m)
    (some (.normal, 58, [a, .sl n 0 (insM m l).length (.open_ 0), b, i64 nb, i64 (j + 1), d 4, d 5], some (.row (meaC (insM m l)) 0 3 false []))) none
def rndF (W0 : World) (a vl b : V) (vw : List (Option Blk)) (l : List Mea) (nb j : Int) (d : Nat → V) (m : Mea) (i : Nat) (x : Mea) : Option (Ex × Nat × List V × Option Blk) :=
  cond (intLt (hiB x m) (loB x m)) (some (.ret, 58, [a, vl, b, i64 nb, i64 j, .nils, .bool false], none))
    (cond (!intLt (widB x m) 0 && inR .i64 (widB x m)) (rndE W0 a vl b vw l nb j d (22 + i) (bothI x m)) none)
/-- A round. -/
def rndO (W0 : World) (a vl b : V) (vw : List (Option Blk)) (l : List Mea) (nb j : Int) (d : Nat → V) (m : Mea) : Nat → List Mea → Option (Ex × Nat × List V × Option Blk)
  | i, [] => rndE W0 a vl b vw l nb j d (4 + i) m
  | i, x :: r => cond (intBeq x.1 m.1) (rndF W0 a vl b vw l nb j d m i x) (rndO W0 a vl b vw l nb j d m (i + 1) r)
def vw3 (a : List Mea) (b : List V) (l : List Mea) : List (Option Blk) := [some (.ro (meaC l)), some (.ro b), some (.ro (meaC a))]
abbrev rndS (W0 : World) (l : List Mea) : SHook := semM Tryz.prog W0 3 noTb (wmT l)
end
end Go.Proofs.YtilfiadkhohfiaaGreatDoor
