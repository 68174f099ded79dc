/- Layer 2: joins of finds. -/
import Derived.Test.YtilfiadkhohfiaaGreatDoorPy
/- Layer 2: joins of finds, in runs. -/
set_option linter.unusedVariables false
namespace Go.Proofs.YtilfiadkhohfiaaGreatDoor
set_option linter.unusedSimpArgs false
set_option linter.unusedVariables false
open Go Go.RowKit Go.Clo

/-- Two lists of measurements, either way. -/
theorem bothM_comm {x y : Mea} (h : x.1 = y.1) : bothM x y = bothM y x := by
  unfold bothM loM hiM
  rw [h, Int.max_comm, Int.min_comm]
theorem badM_comm (a b : List Mea) (k : Int) : badM a b k = badM b a k := by
  unfold badM
  cases h1 : getM a k with
  | none => cases getM b k <;> rfl
  | some x =>
    cases h2 : getM b k with
    | none => rfl
    | some y =>
      simp only
      have : hiM x y < loM x y ↔ hiM y x < loM y x := by
        unfold hiM loM
        rw [Int.max_comm, Int.min_comm]
      simp only [this]
theorem oneM_comm (a b : List Mea) (k : Int) : oneM a b k = oneM b a k := by
  unfold oneM
  cases h1 : getM a k with
  | none => cases getM b k <;> rfl
  | some x =>
    cases h2 : getM b k with
    | none => rfl
    | some y =>
      simp only
      rw [bothM_comm]
      rw [getM_kind h1, getM_kind h2]
theorem joinM_comm {a b : List Mea} (ha : okL (-1) a) (hb : okL (-1) b) : joinM a a b = joinM b b a := by
  rw [joinM_byKind ha hb, joinM_byKind hb ha]
  have e1 : (fun (k : Nat) => badM a b (k : Int)) = fun (k : Nat) => badM b a (k : Int) := funext fun k => badM_comm a b k
  have e2 : oneM a b = oneM b a := funext fun k => oneM_comm a b k
  rw [e1, e2]
theorem bothM_ok {x m : Mea} (hx : okV x) (hm : okV m) (h : ¬ hiM x m < loM x m) : okV (bothM x m) := by
  obtain ⟨a1, a2, a3, a4, a5, a6⟩ := hx
  obtain ⟨b1, b2, b3, b4, b5, b6⟩ := hm
  unfold hiM loM at h
  unfold okV bothM hiM loM
  simp only
  omega
theorem getM_mem {l : List Mea} {k : Int} {x : Mea} (h : getM l k = some x) : x ∈ l := List.mem_of_find?_eq_some h
theorem mem_insM {m : Mea} : ∀ {l : List Mea} {x : Mea}, x ∈ insM m l → x = m ∨ x ∈ l
  | [], x, h => by simp [insM] at h; exact .inl h
  | y :: l, x, h => by
    rw [insM_cons] at h
    split at h
    · cases h with
      | head => exact .inr (.head _)
      | tail _ h => exact (mem_insM h).imp id fun h => .tail _ h
    · split at h
      · cases h with
        | head => exact .inl rfl
        | tail _ h => exact .inr (.tail _ h)
      · cases h with
        | head => exact .inl rfl
        | tail _ h => exact .inr h
theorem joinM_okV {a : List Mea} (ha : ∀ x ∈ a, okV x) : ∀ {b l r : List Mea}, (∀ x ∈ b, okV x) → (∀ x ∈ l, okV x) → joinM a l b = some r → ∀ x ∈ r, okV x
  | [], l, r, _, hl, h => by
    have : l = r := by unfold joinM at h; injection h
    subst this; exact hl
  | m :: b, l, r, hb, hl, h => by
    rw [joinM_step] at h
    cases hs : stepM a m with
    | none => rw [hs] at h; cases h
    | some m' =>
      rw [hs] at h
      refine joinM_okV ha (fun x hx => hb x (.tail _ hx)) (fun x hx => ?_) h
      rcases mem_insM hx with rfl | hx
      · unfold stepM at hs
        split at hs
        · injection hs with hs; subst hs; exact hb _ (.head _)
        · rename_i y hy
          split at hs
          · cases hs
          · rename_i hn
            injection hs with hs; subst hs
            exact bothM_ok (ha y (getM_mem hy)) (hb m (.head _)) hn
      · exact hl x hx
theorem okL_measP : ∀ {l : List Mea} {c : Int}, okL c l → (∀ x ∈ l, okV x) → measP c l
  | [], _, _, _ => trivial
  | m :: l, c, h, hv => by
    rw [measP_cons]
    obtain ⟨h1, h2, h3, h4, h5, h6⟩ := hv m (.head _)
    exact ⟨⟨⟨h1, h2⟩, ⟨h3, h4⟩, h5, h6⟩, h.1, okL_measP h.2.2 fun x hx => hv x (.tail _ hx)⟩
/-- What is there of a kind in the joined list. -/
theorem joinM_get {a b r : List Mea} (ha : okL (-1) a) (hb : okL (-1) b) (h : joinM a a b = some r) : okL (-1) r ∧ ∀ k, badM a b k = false ∧ getM r k = oneM a b k := by
  rcases joinM_run (a := a) (b := b) (l := a) (c := -1) hb (Int.le_refl _) ha with ⟨_, h4⟩ | ⟨h1, r', h2, h3, h4⟩
  · rw [h] at h4; cases h4
  · rw [h] at h2; injection h2 with h2; subst h2
    refine ⟨h3, fun k => ⟨h1 k, ?_⟩⟩
    rw [h4 k]
    rfl
theorem sxI_bound {s s' : Int} : 0 ≤ sxI s s' ∧ sxI s s' ≤ 4 := by
  unfold sxI sxE
  cases intBeq s 1 <;> cases intBeq s 2 <;> cases intBeq s 3 <;> cases intBeq s 4 <;> cases intBeq s' 1 <;> cases intBeq s' 2 <;> cases intBeq s' 3 <;> cases intBeq s' 4 <;> decide
theorem loA_eq (x y : Int) : loA x y = max x y := by
  unfold loA
  cases h : intLt x y with
  | true => rw [intLt_iff] at h; show y = _; omega
  | false => rw [← Bool.not_eq_true, intLt_iff] at h; show x = _; omega
theorem hiA_eq (x y : Int) : hiA x y = min x y := by
  unfold hiA
  cases h : intLt y x with
  | true => rw [intLt_iff] at h; show y = _; omega
  | false => rw [← Bool.not_eq_true, intLt_iff] at h; show x = _; omega
theorem condB (b : Bool) (x y : Int) : cond b x y = if b = true then x else y := by cases b <;> rfl
theorem jC_iff {f g : Fd} {ag : Bool} : jC f g ag = true ↔ f.el = g.el ∧ (f.sd = g.sd ∨ f.sd = 3 ∨ g.sd = 3) ∧ Nat.land f.a g.a = 0 ∧ max f.lo g.lo ≤ min f.hi g.hi ∧ ag = true := by
  unfold jC
  simp only [Bool.and_eq_true, Bool.or_eq_true, Bool.not_eq_true', ← Bool.not_eq_true, intBeq_iff, intLt_iff, eqSet_iff, loA_eq, hiA_eq]
  constructor
  · rintro ⟨h1, h2, h3, h4, h5⟩; exact ⟨h1, h2, h3, by omega, h5⟩
  · rintro ⟨h1, h2, h3, h4, h5⟩; exact ⟨h1, h2, h3, by omega, h5⟩
theorem inB_iff {num : Int} : inB num = true ↔ 0 ≤ num ∧ num ≤ 4095 := by
  unfold inB
  simp only [Bool.and_eq_true, Bool.not_eq_true', ← Bool.not_eq_true, intLt_iff]
  omega
theorem zonesI_of {a : Nat} (h0 : a ≠ 0) (h : a < 65536) : zonesI [.agg [w64 a, w64 0, w64 0, w64 0]] = true := by
  show (!intBeq (.ofNat a) 0 && (intLt (.ofNat a) 65536 && (intBeq (.ofNat 0) 0 && (intBeq (.ofNat 0) 0 && intBeq (.ofNat 0) 0)))) = true
  simp only [Bool.and_eq_true, Bool.not_eq_true', ← Bool.not_eq_true, intBeq_iff, intLt_iff]
  simp only [Int.ofNat_eq_natCast]
  omega
/-- What two finds become, with its list. -/
def jFull (f g : Fd) (num : Int) (oc : Option Nat) (l : List Mea) : Fd := { jFd f g num with oc := oc, l := l }
theorem jFull_valid {f g : Fd} (hf : f.Valid) (hg : g.Valid) {num : Int} (hi : inB num = true) (hc : jC f g true = true) {oc : Option Nat} {l : List Mea} (hJ : joinM f.l f.l g.l = some l) (hlen : l.length ≤ 8) : (jFull f g num oc l).Valid := by
  rw [inB_iff] at hi
  obtain ⟨h1, h2, h3, h4, _⟩ := jC_iff.1 hc
  obtain ⟨hfl, hfo, hfv⟩ := hf.list
  obtain ⟨hgl, hgo, hgv⟩ := hg.list
  obtain ⟨a1, a2, _⟩ := hf.words
  obtain ⟨b1, b2, _⟩ := hg.words
  have hor : Nat.lor f.a g.a < 65536 := Nat.or_lt_two_pow (n := 16) a2 b2
  have hor0 : Nat.lor f.a g.a ≠ 0 := fun h => a1 (Nat.or_eq_zero_iff.1 h).1
  obtain ⟨f1, f2, f3, f4, f5, f6, f7, f8, f9, f10, f11, f12⟩ := hf
  obtain ⟨g1, g2, g3, g4, g5, g6, g7, g8, g9, g10, g11, g12⟩ := hg
  refine ⟨hi, f2, ?_, zonesI_of hor0 hor, sxI_bound, ?_, ⟨hlen, okL_measP (joinM_get hfo hgo hJ).1 (joinM_okV hfv hgv hfv hJ)⟩, ?_, ?_, ?_, f11, f12⟩
  · show sideP f.el (cond (intBeq f.sd 3) g.sd f.sd)
    unfold sideP at f3 g3 ⊢
    rw [← h1] at g3
    cases intBeq f.sd 3
    · exact f3
    · exact g3
  · show 0 ≤ cond (intLt f.wear g.wear) g.wear f.wear ∧ cond (intLt f.wear g.wear) g.wear f.wear ≤ 7
    cases intLt f.wear g.wear
    · exact f6
    · exact g6
  · show 0 ≤ loA f.lo g.lo
    rw [loA_eq]; omega
  · show loA f.lo g.lo ≤ hiA f.hi g.hi
    rw [loA_eq, hiA_eq]; exact h4
  · show hiA f.hi g.hi ≤ 120
    rw [hiA_eq]; omega
end Go.Proofs.YtilfiadkhohfiaaGreatDoor
/- Layer 2: joins of finds, in runs. -/
set_option linter.unusedVariables false
namespace Go.Proofs.YtilfiadkhohfiaaGreatDoor
set_option linter.unusedSimpArgs false
set_option linter.unusedVariables false
open Go Go.RowKit Go.Clo
noncomputable section
def seqs : List Code → Code → Code
  | [], c => c
  | a :: l, c => .seq a (seqs l c)
def hdC (c : Code) : Code := match c with | .seq a _ => a | c => c
def tlC (c : Code) : Code := match c with | .seq _ b => b | c => c
def ptrC (v : V) (s : St) : Option (List V) := match v with | .ptr b _ => (match s.get b with | some (.cells c _) => some c | _ => none) | _ => none
end
set_option maxRecDepth 100000
section
variable (W0 : World) (l : List Mea) (c c' : List V) (ma mb : V) (no el sd : Int) (a b d e : Nat) (lo hi sex wear layer square : Int) (no' el' sd' : Int) (a' b' d' e' : Nat) (lo' hi' sex' wear' layer' square' : Int) (num : Int) (no2 el2 sd2 : Int) (a2 : Nat) (lo2 hi2 sex2 wear2 layer2 square2 : Int) (no3 el3 sd3 : Int) (a3 : Nat) (lo3 hi3 sex3 wear3 layer3 square3 : Int)
end
end Go.Proofs.YtilfiadkhohfiaaGreatDoor
