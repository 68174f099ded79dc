/- Layer 4: lengths of walks: plain mathematics. -/
import Derived.Test.YtjcafjffmiknmaaGreatF2
namespace Go.Proofs.YtjcafjffmiknmaaGreat
set_option linter.unusedSimpArgs false
set_option linter.unusedVariables false
open Go Go.RowKit

def dat (D : List Nat) (i : Nat) : Nat := (D[i]?).getD 0
theorem dat_some {D : List Nat} {i : Nat} (h : i < D.length) : D[i]? = some (dat D i) := by unfold dat; rw [List.getElem?_eq_getElem h]; rfl
theorem dat_set {D : List Nat} {i j x : Nat} (h : i < D.length) : dat (D.set i x) j = if i = j then x else dat D j := by
  unfold dat
  rw [List.getElem?_set]
  by_cases e : i = j
  · subst e; rw [if_pos rfl, if_pos h, if_pos rfl]; rfl
  · rw [if_neg e, if_neg e]
theorem sum_set_lt : ∀ {D : List Nat} {i x : Nat}, i < D.length → x < dat D i → (D.set i x).sum < D.sum
  | [], i, x, h, _ => by simp at h
  | y :: D, 0, x, _, hx => by
    have hx : x < y := hx
    simp only [List.set_cons_zero, List.sum_cons]; omega
  | y :: D, i + 1, x, h, hx => by
    have h1 := sum_set_lt (D := D) (i := i) (x := x) (by simpa using h) hx
    simp only [List.set_cons_succ, List.sum_cons]; omega
/-- From where and to where one turn over a tie goes. -/
def fromN (t : TieD) (u : Nat) : Nat := if u = 0 then t.a.toNat else t.b.toNat
def toN (t : TieD) (u : Nat) : Nat := if u = 0 then t.b.toNat else t.a.toNat
def okR (D : List Nat) (t : TieD) (u c : Nat) : Prop := c + cutN t < 2 → dat D (2 * toN t u + (c + cutN t)) ≤ dat D (2 * fromN t u + c) + 1
def okAll (ts : List TieD) (D : List Nat) (J : Nat) : Prop := ∀ i t u c, ts[i]? = some t → u < 2 → c < 2 → 4 * i + 2 * u + c < J → okR D t u c
structure Snd (ts : List TieD) (n a : Nat) (D : List Nat) : Prop where
  len : D.length = 2 * n
  first : dat D (2 * a) = 0
  far : ∀ i, dat D i ≤ 5120
  way : ∀ v c, v < n → c < 2 → dat D (2 * v + c) < 5120 → ∃ l, leadF ts l ((a : Int), 0) = some ((v : Int), (c : Int)) ∧ l.length = dat D (2 * v + c)
/-- A pass, so far: nothing was changed, or something has become less. -/
def Pas (ts : List TieD) (D0 : List Nat) (J : Nat) (D : List Nat) (ag : Bool) : Prop := (ag = false ∧ D = D0 ∧ okAll ts D0 J) ∨ (ag = true ∧ D.sum < D0.sum)
theorem okAll_next {ts : List TieD} {D : List Nat} {i u c : Nat} {t : TieD} (ht : ts[i]? = some t) (hu : u < 2) (hc : c < 2) (h : okAll ts D (4 * i + 2 * u + c)) (hr : okR D t u c) : okAll ts D (4 * i + 2 * u + (c + 1)) := by
  intro i' t' u' c' ht' hu' hc' hlt
  by_cases e : 4 * i' + 2 * u' + c' < 4 * i + 2 * u + c
  · exact h i' t' u' c' ht' hu' hc' e
  · obtain rfl : i' = i := by omega
    obtain rfl : u' = u := by omega
    obtain rfl : c' = c := by omega
    rw [ht] at ht'
    injection ht' with ht'
    subst ht'; exact hr
theorem Pas.keep {ts : List TieD} {D0 D : List Nat} {ag : Bool} {i u c : Nat} {t : TieD} (h : Pas ts D0 (4 * i + 2 * u + c) D ag) (ht : ts[i]? = some t) (hu : u < 2) (hc : c < 2) (hr : okR D t u c) : Pas ts D0 (4 * i + 2 * u + (c + 1)) D ag := by
  rcases h with ⟨h1, rfl, h2⟩ | h
  · exact .inl ⟨h1, rfl, okAll_next ht hu hc h2 hr⟩
  · exact .inr h
theorem Pas.less {ts : List TieD} {D0 D : List Nat} {ag : Bool} {J J' j x : Nat} (h : Pas ts D0 J D ag) (hj : j < D.length) (hx : x < dat D j) : Pas ts D0 J' (D.set j x) true := by
  have h1 := sum_set_lt hj hx
  rcases h with ⟨_, rfl, _⟩ | ⟨_, h⟩
  · exact .inr ⟨rfl, h1⟩
  · exact .inr ⟨rfl, by omega⟩
theorem Pas.start (ts : List TieD) (D : List Nat) : Pas ts D 0 D false := .inl ⟨rfl, rfl, fun i t u c _ _ _ h => by omega⟩
theorem Pas.cast {ts : List TieD} {D0 D : List Nat} {ag : Bool} {J J' : Nat} (h : Pas ts D0 J D ag) (e : J = J') : Pas ts D0 J' D ag := e ▸ h
/-- Over a tie, in one of both turns. -/
theorem turn_step {ts : List TieD} {n : Nat} (hv : ∀ t ∈ ts, tieB t n = true) {i u c : Nat} {t : TieD} (ht : ts[i]? = some t) : fromN t u < n ∧ toN t u < n ∧ stepF ts ((fromN t u : Int), (c : Int)) (i : Int) = some ((toN t u : Int), ((c + cutN t : Nat) : Int)) := by
  have htm := List.mem_of_getElem? ht
  obtain ⟨ga, gan, gb, gbn, ga', gb'⟩ := tieB_in (hv t htm)
  have hne := tie_ne (hv t htm)
  have hc : ((c + cutN t : Nat) : Int) = (c : Int) + cutI t := by rw [← cutN_I]; omega
  unfold fromN toN
  by_cases hu : u = 0
  · rw [if_pos hu, if_pos hu]
    exact ⟨ga', gb', step_iff.2 ⟨by omega, t, by rw [Int.toNat_natCast]; exact ht, hc, .inl ⟨by omega, by omega⟩⟩⟩
  · rw [if_neg hu, if_neg hu]
    exact ⟨gb', ga', step_iff.2 ⟨by omega, t, by rw [Int.toNat_natCast]; exact ht, hc, .inr ⟨by omega, by omega, by omega⟩⟩⟩
theorem Snd.relax {ts : List TieD} {n a : Nat} {D : List Nat} (hv : ∀ t ∈ ts, tieB t n = true) (h : Snd ts n a D) {i u c : Nat} {t : TieD} (ht : ts[i]? = some t) (hd : c + cutN t < 2) (hx : dat D (2 * fromN t u + c) + 1 < dat D (2 * toN t u + (c + cutN t))) : Snd ts n a (D.set (2 * toN t u + (c + cutN t)) (dat D (2 * fromN t u + c) + 1)) := by
  obtain ⟨h1, h2, h3⟩ := turn_step (u := u) (c := c) hv ht
  have hj : 2 * toN t u + (c + cutN t) < D.length := by rw [h.len]; omega
  refine ⟨by rw [List.length_set]; exact h.len, ?_, fun j => ?_, fun v d hvn hd2 hlt => ?_⟩
  · rw [dat_set hj]
    split
    · rename_i e; rw [e, h.first] at hx; omega
    · exact h.first
  · rw [dat_set hj]
    split
    · have := h.far (2 * toN t u + (c + cutN t)); omega
    · exact h.far j
  · rw [dat_set hj] at hlt ⊢
    by_cases e : 2 * toN t u + (c + cutN t) = 2 * v + d
    · rw [if_pos e] at hlt ⊢
      obtain rfl : v = toN t u := by omega
      obtain rfl : d = c + cutN t := by omega
      obtain ⟨l, hl, hll⟩ := h.way (fromN t u) c h1 (by omega) (by omega)
      refine ⟨l ++ [(i : Int)], ?_, by rw [List.length_append, hll]; rfl⟩
      rw [lead_app, hl]
      show leadF ts [(i : Int)] _ = _
      rw [lead_cons, h3]; rfl
    · rw [if_neg e] at hlt ⊢
      exact h.way v d hvn hd2 hlt
theorem closed {ts : List TieD} {n : Nat} {D : List Nat} (hv : ∀ t ∈ ts, tieB t n = true) (h : okAll ts D (4 * ts.length)) : ∀ {l : List Int} {x c y d : Nat}, d < 2 → leadF ts l ((x : Int), (c : Int)) = some ((y : Int), (d : Int)) → dat D (2 * y + d) ≤ dat D (2 * x + c) + l.length
  | [], x, c, y, d, _, hl => by
    have hl : some ((x : Int), (c : Int)) = some ((y : Int), (d : Int)) := hl
    injection hl with hl; injection hl with h1 h2
    obtain rfl : x = y := by omega
    obtain rfl : c = d := by omega
    exact Nat.le_add_right _ _
  | i :: l, x, c, y, d, hd, hl => by
    obtain ⟨⟨z, f⟩, h1, h2⟩ := lead_cons_some hl
    obtain ⟨h0, t, ht, hf, hab⟩ := step_iff.1 h1
    have hil := (List.getElem?_eq_some_iff.1 ht).1
    have hcut := lead_cuts h2
    have hci := cutI_le t
    have htm := List.mem_of_getElem? ht
    obtain ⟨ga, _, gb, _, _, _⟩ := tieB_in (hv t htm)
    have hz : 0 ≤ z := by rcases hab with ⟨_, rfl⟩ | ⟨_, _, rfl⟩ <;> assumption
    obtain ⟨z', rfl⟩ := Int.eq_ofNat_of_zero_le hz
    have hfn : f = ((c + cutN t : Nat) : Int) := by rw [hf, ← cutN_I]; omega
    subst hfn
    have ih := closed hv h hd h2
    have hstep : dat D (2 * z' + (c + cutN t)) ≤ dat D (2 * x + c) + 1 := by
      rcases hab with ⟨e1, e2⟩ | ⟨_, e1, e2⟩
      · have hr := h i.toNat t 0 c ht (by omega) (by omega) (by omega) (by omega)
        have ef : fromN t 0 = x := by unfold fromN; rw [if_pos rfl, ← e1]; omega
        have et : toN t 0 = z' := by unfold toN; rw [if_pos rfl, ← e2]; omega
        rw [ef, et] at hr; exact hr
      · have hr := h i.toNat t 1 c ht (by omega) (by omega) (by omega) (by omega)
        have ef : fromN t 1 = x := by unfold fromN; rw [if_neg (by omega), ← e1]; omega
        have et : toN t 1 = z' := by unfold toN; rw [if_neg (by omega), ← e2]; omega
        rw [ef, et] at hr; exact hr
    simp only [List.length_cons]; omega
/-- The table at first. -/
def tab0 (n : Nat) : List Nat := List.replicate (2 * n) 5120
theorem dat_tab0 {n i : Nat} (h : i < 2 * n) : dat (tab0 n) i = 5120 := by unfold dat tab0; rw [List.getElem?_replicate, if_pos h]; rfl
theorem Snd.start {ts : List TieD} {n a : Nat} (ha : a < n) : Snd ts n a ((tab0 n).set (2 * a) 0) := by
  have hl : (tab0 n).length = 2 * n := by unfold tab0; simp
  have hj : 2 * a < (tab0 n).length := by rw [hl]; omega
  refine ⟨by rw [List.length_set, hl], by rw [dat_set hj, if_pos rfl], fun i => ?_, fun v c hv hc hlt => ?_⟩
  · rw [dat_set hj]
    split
    · omega
    · by_cases hi : i < 2 * n
      · rw [dat_tab0 hi]; omega
      · unfold dat; rw [List.getElem?_eq_none (by rw [hl]; omega)]; exact Nat.zero_le _
  · rw [dat_set hj] at hlt ⊢
    by_cases e : 2 * a = 2 * v + c
    · rw [if_pos e]
      obtain rfl : v = a := by omega
      obtain rfl : c = 0 := by omega
      exact ⟨[], rfl, rfl⟩
    · rw [if_neg e, dat_tab0 (by omega)] at hlt; omega
/-- The answer. -/
def LenR (ts : List TieD) (a b cuts : Nat) (r : Int) : Prop := (r = -1 ∧ ∀ l : List Int, leadF ts l ((a : Int), 0) = some ((b : Int), (cuts : Int)) → 5120 ≤ l.length) ∨ ∃ l : List Int, leadF ts l ((a : Int), 0) = some ((b : Int), (cuts : Int)) ∧ r = l.length ∧ ∀ l' : List Int, leadF ts l' ((a : Int), 0) = some ((b : Int), (cuts : Int)) → l.length ≤ l'.length
theorem Snd.answer {ts : List TieD} {n a b cuts : Nat} {D : List Nat} (hv : ∀ t ∈ ts, tieB t n = true) (h : Snd ts n a D) (hb : b < n) (hc : cuts < 2) (hok : okAll ts D (4 * ts.length)) :
    (5120 ≤ dat D (2 * b + cuts) → LenR ts a b cuts (-1)) ∧ (¬ 5120 ≤ dat D (2 * b + cuts) → LenR ts a b cuts (dat D (2 * b + cuts) : Nat)) := by
  have hcl : ∀ l : List Int, leadF ts l ((a : Int), 0) = some ((b : Int), (cuts : Int)) → dat D (2 * b + cuts) ≤ l.length := fun l hl => by
    have := closed hv hok (x := a) (c := 0) hc hl
    rw [Nat.add_zero, h.first] at this; omega
  refine ⟨fun hf => .inl ⟨rfl, fun l hl => Nat.le_trans hf (hcl l hl)⟩, fun hf => ?_⟩
  obtain ⟨l, hl, hll⟩ := h.way b cuts hb hc (by omega)
  exact .inr ⟨l, hl, by rw [hll], fun l' hl' => by rw [hll]; exact hcl l' hl'⟩
end Go.Proofs.YtjcafjffmiknmaaGreat
