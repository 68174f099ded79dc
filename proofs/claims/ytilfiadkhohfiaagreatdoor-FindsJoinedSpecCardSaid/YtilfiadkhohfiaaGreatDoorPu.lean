/- Layer 2: joins of finds. -/
import Derived.Test.YtilfiadkhohfiaaGreatDoorPt
import Derived.Test.YtilfiadkhohfiaaGreatDoorP1
import Derived.Test.YtilfiadkhohfiaaGreatDoorP2
import Derived.Test.YtilfiadkhohfiaaGreatDoorP3
import Derived.Test.YtilfiadkhohfiaaGreatDoorP4
import Derived.Test.YtilfiadkhohfiaaGreatDoorPr
import Derived.KernelRfl
import Derived.Test.YtilfiadkhohfiaaGreatDoorPd
/- Layer 2: joins of finds, in runs. -/
set_option linter.unusedVariables false
namespace Go.Proofs.YtilfiadkhohfiaaGreatDoor
set_option linter.unusedSimpArgs false
set_option linter.unusedVariables false
open Go Go.RowKit Go.Clo

theorem hdL_ok {ρ : Rho} {a vl b : V} {nb j : Int} {d : Nat → V} {tm : Array Value} (hs : tm.size = 58) (h0 : E ρ a (tm.getD 0 undef)) (h6 : E ρ vl (tm.getD 6 undef)) (h12 : E ρ b (tm.getD 12 undef)) (h13 : E ρ (i64 nb) (tm.getD 13 undef)) (h14 : E ρ (i64 j) (tm.getD 14 undef)) (hd : ∀ i, E ρ (d i) (tm.getD i undef)) :
    FrE ρ (frL (hdL a vl b nb j d)) tm := frL_ok (by rw [hs]; rfl) fun i v hi => match i, hi with
  | 0, hi => Option.some.inj hi ▸ h0
  | 1, hi => Option.some.inj hi ▸ hd 1
  | 2, hi => Option.some.inj hi ▸ hd 2
  | 3, hi => Option.some.inj hi ▸ hd 3
  | 4, hi => Option.some.inj hi ▸ hd 4
  | 5, hi => Option.some.inj hi ▸ hd 5
  | 6, hi => Option.some.inj hi ▸ h6
  | 7, hi => Option.some.inj hi ▸ hd 7
  | 8, hi => Option.some.inj hi ▸ hd 8
  | 9, hi => Option.some.inj hi ▸ hd 9
  | 10, hi => Option.some.inj hi ▸ hd 10
  | 11, hi => Option.some.inj hi ▸ hd 11
  | 12, hi => Option.some.inj hi ▸ h12
  | 13, hi => Option.some.inj hi ▸ h13
  | 14, hi => Option.some.inj hi ▸ h14
  | 15, hi => Option.some.inj hi ▸ hd 15
  | 16, hi => Option.some.inj hi ▸ hd 16
  | 17, hi => Option.some.inj hi ▸ hd 17
  | 18, hi => Option.some.inj hi ▸ hd 18
  | 19, hi => Option.some.inj hi ▸ hd 19
  | 20, hi => Option.some.inj hi ▸ hd 20
  | 21, hi => Option.some.inj hi ▸ hd 21
  | 22, hi => Option.some.inj hi ▸ hd 22
  | 23, hi => Option.some.inj hi ▸ hd 23
  | 24, hi => Option.some.inj hi ▸ hd 24
  | 25, hi => Option.some.inj hi ▸ hd 25
  | 26, hi => Option.some.inj hi ▸ hd 26
  | 27, hi => Option.some.inj hi ▸ hd 27
  | 28, hi => Option.some.inj hi ▸ hd 28
  | 29, hi => Option.some.inj hi ▸ hd 29
  | 30, hi => Option.some.inj hi ▸ hd 30
  | 31, hi => Option.some.inj hi ▸ hd 31
  | 32, hi => Option.some.inj hi ▸ hd 32
  | 33, hi => Option.some.inj hi ▸ hd 33
  | 34, hi => Option.some.inj hi ▸ hd 34
  | 35, hi => Option.some.inj hi ▸ hd 35
  | 36, hi => Option.some.inj hi ▸ hd 36
  | 37, hi => Option.some.inj hi ▸ hd 37
  | 38, hi => Option.some.inj hi ▸ hd 38
  | 39, hi => Option.some.inj hi ▸ hd 39
  | 40, hi => Option.some.inj hi ▸ hd 40
  | 41, hi => Option.some.inj hi ▸ hd 41
  | 42, hi => Option.some.inj hi ▸ hd 42
  | 43, hi => Option.some.inj hi ▸ hd 43
  | 44, hi => Option.some.inj hi ▸ hd 44
  | 45, hi => Option.some.inj hi ▸ hd 45
  | 46, hi => Option.some.inj hi ▸ hd 46
  | 47, hi => Option.some.inj hi ▸ hd 47
  | 48, hi => Option.some.inj hi ▸ hd 48
  | 49, hi => Option.some.inj hi ▸ hd 49
  | 50, hi => Option.some.inj hi ▸ hd 50
  | 51, hi => Option.some.inj hi ▸ hd 51
  | 52, hi => Option.some.inj hi ▸ hd 52
  | 53, hi => Option.some.inj hi ▸ hd 53
  | 54, hi => Option.some.inj hi ▸ hd 54
  | 55, hi => Option.some.inj hi ▸ hd 55
  | 56, hi => Option.some.inj hi ▸ hd 56
  | 57, hi => Option.some.inj hi ▸ hd 57
  | n + 58, hi => nomatch (show none = some v from hi)
/-- The slots at the loop's head. -/
structure Head (tm : Array Value) (ams lms bms : Value) (nb j : Nat) : Prop where
  size : tm.size = 58
  h0 : tm.getD 0 undef = ams
  h6 : tm.getD 6 undef = lms
  h12 : tm.getD 12 undef = bms
  h13 : tm.getD 13 undef = .int .i64 (nb : Int)
  h14 : tm.getD 14 undef = .int .i64 (j : Int)
/-- A measurement within its bounds. -/
def okV (x : Mea) : Prop := 0 ≤ x.1 ∧ x.1 ≤ 15 ∧ 0 ≤ x.2.1 ∧ x.2.1 ≤ 100000 ∧ 0 ≤ x.2.2 ∧ x.2.2 ≤ 1000
theorem loI_eq {x : Mea} (h : okV x) : loI x = x.2.1 - x.2.2 := by
  obtain ⟨_, _, h1, h2, h3, h4⟩ := h
  unfold loI
  rw [show Int.sub x.2.1 x.2.2 = x.2.1 - x.2.2 from rfl, fit_i64 (by omega)]
theorem hiI_eq {x : Mea} (h : okV x) : hiI x = x.2.1 + x.2.2 := by
  obtain ⟨_, _, h1, h2, h3, h4⟩ := h
  unfold hiI
  rw [show Int.add x.2.1 x.2.2 = x.2.1 + x.2.2 from rfl, fit_i64 (by omega)]
theorem loB_eq {x m : Mea} (hx : okV x) (hm : okV m) : loB x m = loM x m := by
  unfold loB loM
  rw [loI_eq hx, loI_eq hm]
  cases h : intLt (x.2.1 - x.2.2) (m.2.1 - m.2.2) with
  | true => rw [intLt_iff] at h; show m.2.1 - m.2.2 = _; omega
  | false => rw [← Bool.not_eq_true, intLt_iff] at h; show x.2.1 - x.2.2 = _; omega
theorem hiB_eq {x m : Mea} (hx : okV x) (hm : okV m) : hiB x m = hiM x m := by
  unfold hiB hiM
  rw [hiI_eq hx, hiI_eq hm]
  cases h : intLt (m.2.1 + m.2.2) (x.2.1 + x.2.2) with
  | true => rw [intLt_iff] at h; show m.2.1 + m.2.2 = _; omega
  | false => rw [← Bool.not_eq_true, intLt_iff] at h; show x.2.1 + x.2.2 = _; omega
theorem span_bounds {x m : Mea} (hx : okV x) (hm : okV m) : -1000 ≤ loM x m ∧ loM x m ≤ 100000 ∧ 0 ≤ hiM x m ∧ hiM x m ≤ 101000 := by
  obtain ⟨_, _, h1, h2, h3, h4⟩ := hx
  obtain ⟨_, _, k1, k2, k3, k4⟩ := hm
  unfold loM hiM
  omega
theorem widB_eq {x m : Mea} (hx : okV x) (hm : okV m) : widB x m = hiM x m - loM x m + 1 := by
  have := span_bounds hx hm
  unfold widB
  rw [hiB_eq hx hm, loB_eq hx hm, show Int.sub (hiM x m) (loM x m) = hiM x m - loM x m from rfl, fit_i64 (z := hiM x m - loM x m) (by omega), show Int.add (hiM x m - loM x m) 1 = hiM x m - loM x m + 1 from rfl, fit_i64 (by omega)]
theorem bothI_eq {x m : Mea} (hx : okV x) (hm : okV m) (h : ¬ hiM x m < loM x m) : bothI x m = bothM x m := by
  have := span_bounds hx hm
  unfold bothI bothM errB
  rw [widB_eq hx hm, loB_eq hx hm, show (Int.ofNat 2) = (2 : Int) from rfl, show Int.add (loM x m) ((hiM x m - loM x m + 1) / 2) = loM x m + (hiM x m - loM x m + 1) / 2 from rfl, fit_i64 (by omega)]
/-- What becomes of one measurement of the second list. -/
def stepM (a : List Mea) (m : Mea) : Option Mea := match getM a m.1 with
  | none => some m
  | some x => if hiM x m < loM x m then none else some (bothM x m)
theorem joinM_step (a l : List Mea) (m : Mea) (b : List Mea) : joinM a l (m :: b) = match stepM a m with | none => none | some m' => joinM a (insM m' l) b := by
  unfold stepM
  conv => lhs; unfold joinM
  cases getM a m.1 with
  | none => rfl
  | some x => simp only []; split <;> rfl
theorem stepM_kind {a : List Mea} {m m' : Mea} (h : stepM a m = some m') : m'.1 = m.1 := by
  unfold stepM at h
  split at h
  · injection h with h; rw [h]
  · split at h
    · cases h
    · injection h with h; rw [← h]; rfl
theorem rndO_cases {W0 : World} {a vl b : V} {vw : List (Option Blk)} {l : List Mea} {nb j : Int} {d : Nat → V} {m : Mea} (hm : okV m) (hok : ∀ (n : Nat) (m' : Mea), m'.1 = m.1 → wmO2 W0 vl vw l n m' = true) :
    ∀ (al : List Mea) (i : Nat), (∀ x ∈ al, okV x) →
      (stepM al m = none ∧ rndO W0 a vl b vw l nb j d m i al = some (.ret, 58, [a, vl, b, i64 nb, i64 j, .nils, .bool false], none)) ∨
      (∃ m' n, stepM al m = some m' ∧ rndO W0 a vl b vw l nb j d m i al = some (.normal, 58, [a, .sl n 0 (insM m' l).length (.open_ 0), b, i64 nb, i64 (j + 1), d 4, d 5], some (.row (meaC (insM m' l)) 0 3 false [])))
  | [], i, _ => by
    refine .inr ⟨m, 4 + i, rfl, ?_⟩
    show rndE W0 a vl b vw l nb j d (4 + i) m = _
    unfold rndE
    rw [hok _ m rfl]
    rfl
  | x :: r, i, hv => by
    have hx := hv x (List.mem_cons_self ..)
    have e : stepM (x :: r) m = if x.1 = m.1 then (if hiM x m < loM x m then none else some (bothM x m)) else stepM r m := by
      unfold stepM
      rw [getM_cons]
      by_cases h : x.1 = m.1
      · rw [if_pos h, if_pos h]
      · rw [if_neg h, if_neg h]
    rw [e]
    show (_ ∧ cond (intBeq x.1 m.1) (rndF W0 a vl b vw l nb j d m i x) (rndO W0 a vl b vw l nb j d m (i + 1) r) = _) ∨ (∃ m' n, _ ∧ cond (intBeq x.1 m.1) (rndF W0 a vl b vw l nb j d m i x) (rndO W0 a vl b vw l nb j d m (i + 1) r) = _)
    cases hk : intBeq x.1 m.1 with
    | false =>
      rw [← Bool.not_eq_true, intBeq_iff] at hk
      rw [if_neg hk]
      exact rndO_cases hm hok r (i + 1) fun y hy => hv y (List.mem_cons_of_mem _ hy)
    | true =>
      rw [intBeq_iff] at hk
      rw [if_pos hk]
      show (_ ∧ rndF W0 a vl b vw l nb j d m i x = _) ∨ (∃ m' n, _ ∧ rndF W0 a vl b vw l nb j d m i x = _)
      unfold rndF
      rw [hiB_eq hx hm, loB_eq hx hm]
      cases hlt : intLt (hiM x m) (loM x m) with
      | true =>
        rw [intLt_iff] at hlt
        rw [if_pos hlt]
        exact .inl ⟨rfl, rfl⟩
      | false =>
        rw [← Bool.not_eq_true, intLt_iff] at hlt
        rw [if_neg hlt]
        have hb := span_bounds hx hm
        have hw : (!intLt (widB x m) 0 && inR .i64 (widB x m)) = true := by
          rw [widB_eq hx hm, Bool.and_eq_true, Bool.not_eq_true', ← Bool.not_eq_true, intLt_iff]
          refine ⟨by omega, ?_⟩
          obtain ⟨k, hk⟩ : ∃ k : Nat, hiM x m - loM x m + 1 = Int.ofNat k := ⟨(hiM x m - loM x m + 1).toNat, by simp only [Int.ofNat_eq_natCast]; omega⟩
          rw [hk]
          show Nat.ble k (top .i64) = true
          rw [Nat.ble_eq]
          show k ≤ 9223372036854775807
          simp only [Int.ofNat_eq_natCast] at hk
          omega
        rw [hw, bothI_eq hx hm hlt]
        refine .inr ⟨bothM x m, 22 + i, rfl, ?_⟩
        show rndE W0 a vl b vw l nb j d (22 + i) (bothM x m) = _
        unfold rndE
        rw [hok _ (bothM x m) rfl]
        rfl
/-- The cells of a list up to a place. -/
theorem anyP_at {m : Mea} : ∀ {b : List Mea} {j : Nat}, b[j]? = some m → ∀ {i : Nat} {v : V}, (anyP j ++ meaC [m])[i]? = some v → ∃ n, (meaVs b)[i]? = some (.int .i64 n) ∧ ∀ ρ, E ρ v (.int .i64 n)
  | [], j, h, _, _, _ => by simp at h
  | x :: b, 0, h, i, v, hi => by
    have : x = m := by simpa using h
    subst this
    match i, hi with
    | 0, hi => exact ⟨x.1, rfl, fun ρ => Option.some.inj hi ▸ E_i64 _⟩
    | 1, hi => exact ⟨x.2.1, rfl, fun ρ => Option.some.inj hi ▸ E_i64 _⟩
    | 2, hi => exact ⟨x.2.2, rfl, fun ρ => Option.some.inj hi ▸ E_i64 _⟩
    | i + 3, hi => exact nomatch (show none = some v from hi)
  | x :: b, j + 1, h, i, v, hi => by
    have hany : ∀ (ρ : Rho) (n : Int), E ρ .any (.int .i64 n) := fun ρ n => by simp only [E]; exact ⟨fun b e => (by cases e), fun us e => (by cases e), fun us e => (by cases e)⟩
    match i, hi with
    | 0, hi => exact ⟨x.1, rfl, fun ρ => Option.some.inj hi ▸ hany _ _⟩
    | 1, hi => exact ⟨x.2.1, rfl, fun ρ => Option.some.inj hi ▸ hany _ _⟩
    | 2, hi => exact ⟨x.2.2, rfl, fun ρ => Option.some.inj hi ▸ hany _ _⟩
    | i + 3, hi =>
      have hi : (anyP j ++ meaC [m])[i]? = some v := hi
      exact anyP_at (b := b) (j := j) (by simpa using h) hi
theorem mv_fun {ρ : Rho} {i : Nat} {oc : Option Nat} {l : List Mea} {u u' : Value} (h : E ρ (mvOf i oc l) u) (h' : E ρ (mvOf i oc l) u') : u = u' := by
  cases oc with
  | none => simp only [mvOf, E] at h h'; rw [h, h']
  | some cap =>
    simp only [mvOf, E] at h h'
    obtain ⟨k, hk, rfl⟩ := h
    obtain ⟨k', hk', rfl⟩ := h'
    rw [hk] at hk'; injection hk' with hk'; rw [hk']
theorem cut_full (c : List V) : cut c 0 c.length = .ok c := by
  have e1 : dropN c 0 = c := by cases c <;> rfl
  unfold cut
  rw [e1]
  have e2 : ∀ l : List V, lenLe l.length l = true ∧ takeN l l.length = l := by
    intro l
    induction l with
    | nil => exact ⟨rfl, rfl⟩
    | cons v l ih => exact ⟨ih.1, congrArg (v :: ·) ih.2⟩
  show Clo.ask (lenLe c.length c) _ (.ok (takeN c c.length)) = _
  rw [(e2 c).1, (e2 c).2]
  rfl
/-- A round of the loop. -/
theorem round_of (hmix : Tryz.prog.follows .mixedOrders = true) {w : World} {act : Act} {ams bms lms : Value} {oca ocl : Option Nat} {a b l : List Mea} {m : Mea} {cb j : Nat}
    (ha : MeaAt w ams oca a) (hao : oca = none → a = []) (hva : ∀ x ∈ a, okV x) (hb : MeaAt w bms (some cb) b) (hj : b[j]? = some m) (hvm : okV m)
    (hl : MeaAt w lms ocl l) (hlo : ocl = none → l = []) (hroom : Room ocl l) (hkl : Kinds l) (hln : l.length ≤ 15) (hh : Head act.tmps ams lms bms b.length j) (hd : act.defers = [])
    (hv : ∀ (q : Nat) (d : Nat → V), codeG Tryz.prog (rndS w l) 60 body169 (frL (hdL (mvOf 0 oca a) (mvOf 2 ocl l) (.sl 1 0 (q + (j + 1)) (.exact cb)) (.ofNat (q + (j + 1))) (.ofNat j) d)) (st3 (meaC a) (anyP j ++ meaC [m]) (meaC l)) rndG = rndO w (mvOf 0 oca a) (mvOf 2 ocl l) (.sl 1 0 (q + (j + 1)) (.exact cb)) (vw3 a (anyP j ++ meaC [m]) l) l (.ofNat (q + (j + 1))) (.ofNat j) d m 0 a)
    (hA : ∀ (q : Nat) (d : Nat → V), codeA Tryz.prog (rndS w l) 60 body169 (frL (hdL (mvOf 0 oca a) (mvOf 2 ocl l) (.sl 1 0 (q + (j + 1)) (.exact cb)) (.ofNat (q + (j + 1))) (.ofNat j) d)) (st3 (meaC a) (anyP j ++ meaC [m]) (meaC l)) false = codeA Tryz.prog (rndS w l) 60 body169 (frL (hdL (mvOf 0 oca a) (mvOf 2 ocl l) (.sl 1 0 (q + (j + 1)) (.exact cb)) (.ofNat (q + (j + 1))) (.ofNat j) d)) (st3 (meaC a) (anyP j ++ meaC [m]) (meaC l)) true) :
    body169.wp Tryz.prog (fun e a' w' => Below w.heap.size w w' ∧ a'.defers = [] ∧ a'.tmps.size = 58 ∧
      ((e = .ret ∧ stepM a m = none ∧ a'.tmps.getD 4 undef = .slice none 0 0 ∧ a'.tmps.getD 5 undef = .bool false) ∨
       (e = .normal ∧ ∃ m' lms', stepM a m = some m' ∧ NewAt w.heap.size w' lms' (insM m' l) ∧ Head a'.tmps ams lms' bms b.length (j + 1)))) act w := by
  have hs0 : 0 < w.heap.size := by
    obtain ⟨bb, o, _, hin⟩ := hb
    exact Nat.lt_of_le_of_lt (Nat.zero_le _) hin.1
  obtain ⟨ρ1, _, hR1, ea⟩ := ha.add (Rel.start' (Below.refl w.heap.size w))
  obtain ⟨bb, ob, rfl, hbin⟩ := hb
  have hn1 : ρ1 1 = none := hR1.fresh 1 (Nat.le_refl _)
  have hR2 := hR1.addRo (l := ⟨bb, ob, cb⟩) (c := anyP j ++ meaC [m]) hbin.1 fun i v hi => by
    obtain ⟨n, h1, h2⟩ := anyP_at hj hi
    exact ⟨_, hbin.2 i _ h1, h2 _⟩
  obtain ⟨ρ3, le3, hR3, el⟩ := hl.add hR2
  have le2 := Rho.le_upd (ρ := ρ1) (b := 1) ⟨bb, ob, cb⟩ hn1
  have ea := E.mono (Rho.le_trans le2 le3) _ ea
  have eb : E ρ3 (.sl 1 0 b.length (.exact cb)) (.slice (some ⟨bb, ob, none⟩) b.length cb) := by
    simp only [E]
    exact ⟨⟨bb, ob, cb⟩, le3 _ _ (Rho.upd_same _ _ _), rfl⟩
  have hjl : j < b.length := (List.getElem?_eq_some_iff.1 hj).1
  obtain ⟨q, hq⟩ : ∃ q, b.length = q + (j + 1) := ⟨b.length - (j + 1), by omega⟩
  have hch : ∃ d : Nat → V, ∀ i, E ρ3 (d i) (act.tmps.getD i undef) := ⟨fun i => Classical.choose (E.some ρ3 (act.tmps.getD i undef)), fun i => Classical.choose_spec (E.some ρ3 (act.tmps.getD i undef))⟩
  obtain ⟨d, hdd⟩ := hch
  rw [hq] at eb
  have hF : FrE ρ3 (frL (hdL (mvOf 0 oca a) (mvOf 2 ocl l) (.sl 1 0 (q + (j + 1)) (.exact cb)) (.ofNat (q + (j + 1))) (.ofNat j) d)) act.tmps :=
    hdL_ok hh.size (by rw [hh.h0]; exact ea) (by rw [hh.h6]; exact el) (by rw [hh.h12, hq]; exact eb) (by rw [hh.h13, hq]; exact E_i64 _) (by rw [hh.h14]; exact E_i64 _) hdd
  have hok : ∀ (n : Nat) (m' : Mea), m'.1 = m.1 → wmO2 w (mvOf 2 ocl l) (vw3 a (anyP j ++ meaC [m]) l) l n m' = true := fun n m' hm' => by
    unfold wmO2
    refine goodM_true fun s hvw hsz => ?_
    have hg : s.get 2 = some (.ro (meaC l)) := (List.cons.inj hvw).1
    subst hsz
    exact good_wm hmix hs0 m' hg hlo hroom hkl (by rw [hm']; exact ⟨hvm.1, hvm.2.1⟩) hln
  have base := fun (y : Ex × Nat × List V × Option Blk) (hy : codeG Tryz.prog (rndS w l) 60 body169 (frL (hdL (mvOf 0 oca a) (mvOf 2 ocl l) (.sl 1 0 (q + (j + 1)) (.exact cb)) (.ofNat (q + (j + 1))) (.ofNat j) d)) (st3 (meaC a) (anyP j ++ meaC [m]) (meaC l)) rndG = some y) => codeG_stepH hmix semM_ok hy (hA q d) hR3 hF hd
  have noI : ∀ r, ¬ Img ρ3 (st3 (meaC a) (anyP j ++ meaC [m]) (meaC l)) r := noImg_alloc (noImg_alloc (noImg_alloc fun r ⟨b, x, l, hb, _⟩ => by cases hb))
  rcases rndO_cases (W0 := w) (a := mvOf 0 oca a) (vl := mvOf 2 ocl l) (b := .sl 1 0 (q + (j + 1)) (.exact cb)) (vw := vw3 a (anyP j ++ meaC [m]) l) (l := l) (nb := .ofNat (q + (j + 1))) (j := .ofNat j) (d := d) hvm hok a 0 hva with ⟨h1, h2⟩ | ⟨m', n, h1, h2⟩
  · refine wp_mono (base _ ((hv q d).trans h2)) ?_
    rintro e a' w' ⟨x, t', s', ⟨rfl, hd', ρ', hst, hf⟩, hg⟩
    simp only [rndG, Prod.mk.injEq, List.cons.injEq] at hg
    obtain ⟨rfl, gn, ⟨g0, g6, g12, g13, g14, g4, g5, _⟩, _⟩ := hg
    have e4 := hf.2 4
    have e5 := hf.2 5
    rw [g4] at e4; rw [g5] at e5
    simp only [E] at e4 e5
    exact ⟨Step.belowOf hR3 hst noI, hd', hf.1.trans gn, .inl ⟨rfl, h1, e4, e5⟩⟩
  · refine wp_mono (base _ ((hv q d).trans h2)) ?_
    rintro e a' w' ⟨x, t', s', ⟨rfl, hd', ρ', hst, hf⟩, hg⟩
    simp only [rndG, Prod.mk.injEq, List.cons.injEq] at hg
    obtain ⟨rfl, gn, ⟨g0, g6, g12, g13, g14, g4, g5, _⟩, gb⟩ := hg
    have e0 := hf.2 0
    have e6 := hf.2 6
    have e12 := hf.2 12
    have e13 := hf.2 13
    have e14 := hf.2 14
    rw [g0] at e0; rw [g6] at e6; rw [g12] at e12; rw [g13] at e13; rw [g14] at e14
    rw [g6] at gb
    have gb : s'.get n = some (.row (meaC (insM m' l)) 0 3 false []) := gb
    have hrow : rowOf (.sl n 0 (insM m' l).length (.open_ 0)) s' = .ok (meaC (insM m' l)) := by
      unfold rowOf
      simp only
      rw [gb]
      have e : (insM m' l).length * 3 = (meaC (insM m' l)).length := by rw [meaC_len]; omega
      show Clo.ask true _ (Clo.ask true _ (cut _ 0 _)) = _
      rw [e, cut_full]
      rfl
    have hnew := row_new hst.rel (insM_ne m' l) e6 hrow
    have e12' := E.mono hst.le _ eb
    have h12 : a'.tmps.getD 12 undef = .slice (some ⟨bb, ob, none⟩) b.length cb := by
      simp only [E] at e12 e12'
      obtain ⟨k, hk, hu⟩ := e12
      obtain ⟨k', hk', hu'⟩ := e12'
      rw [hk] at hk'; injection hk' with hk'; subst hk'
      rw [hu, hq]; exact hu'.symm
    refine ⟨Step.belowOf hR3 hst noI, hd', hf.1.trans gn, .inr ⟨rfl, m', _, h1, hnew, hf.1.trans gn, mv_fun e0 (E.mono hst.le _ ea), rfl, h12, ?_, ?_⟩⟩
    · rw [E_i64_inv e13, hq]; rfl
    · rw [E_i64_inv e14]; rfl
theorem round_any (hmix : Tryz.prog.follows .mixedOrders = true) {w : World} {act : Act} {ams bms lms : Value} {oca ocb ocl : Option Nat} {a b l : List Mea} {m : Mea} {j : Nat}
    (ha : MeaAt w ams oca a) (hao : oca = none → a = []) (hal : a.length ≤ 8) (hva : ∀ x ∈ a, okV x) (hb : MeaAt w bms ocb b) (hj : b[j]? = some m) (hj7 : j ≤ 7) (hvm : okV m)
    (hl : MeaAt w lms ocl l) (hlo : ocl = none → l = []) (hroom : Room ocl l) (hkl : Kinds l) (hln : l.length ≤ 15) (hh : Head act.tmps ams lms bms b.length j) (hd : act.defers = []) :
    body169.wp Tryz.prog (fun e a' w' => Below w.heap.size w w' ∧ a'.defers = [] ∧ a'.tmps.size = 58 ∧
      ((e = .ret ∧ stepM a m = none ∧ a'.tmps.getD 4 undef = .slice none 0 0 ∧ a'.tmps.getD 5 undef = .bool false) ∨
       (e = .normal ∧ ∃ m' lms', stepM a m = some m' ∧ NewAt w.heap.size w' lms' (insM m' l) ∧ Head a'.tmps ams lms' bms b.length (j + 1)))) act w := by
  cases ocb with
  | none => obtain ⟨_, _, rfl⟩ := hb; simp at hj
  | some cb =>
    match j, hj, hj7, hh with
    | 0, hj, hj7, hh =>
      cases oca with
      | none =>
        obtain rfl := hao rfl
        exact round_of hmix ha hao hva hb hj hvm hl hlo hroom hkl hln hh hd (fun q d => rd_n_0 w m l q 0 cb _ d) (fun q d => rdA_n_0 w m l q 0 cb _ d)
      | some ca =>
        match a, ha, hva, hal with
        | [], ha, hva, hal => exact round_of hmix ha hao hva hb hj hvm hl hlo hroom hkl hln hh hd (fun q d => rd_0_0 w m  l q ca cb _ d) (fun q d => rdA_0_0 w m  l q ca cb _ d)
        | [x1], ha, hva, hal => exact round_of hmix ha hao hva hb hj hvm hl hlo hroom hkl hln hh hd (fun q d => rd_1_0 w m x1 l q ca cb _ d) (fun q d => rdA_1_0 w m x1 l q ca cb _ d)
        | [x1, x2], ha, hva, hal => exact round_of hmix ha hao hva hb hj hvm hl hlo hroom hkl hln hh hd (fun q d => rd_2_0 w m x1 x2 l q ca cb _ d) (fun q d => rdA_2_0 w m x1 x2 l q ca cb _ d)
        | [x1, x2, x3], ha, hva, hal => exact round_of hmix ha hao hva hb hj hvm hl hlo hroom hkl hln hh hd (fun q d => rd_3_0 w m x1 x2 x3 l q ca cb _ d) (fun q d => rdA_3_0 w m x1 x2 x3 l q ca cb _ d)
        | [x1, x2, x3, x4], ha, hva, hal => exact round_of hmix ha hao hva hb hj hvm hl hlo hroom hkl hln hh hd (fun q d => rd_4_0 w m x1 x2 x3 x4 l q ca cb _ d) (fun q d => rdA_4_0 w m x1 x2 x3 x4 l q ca cb _ d)
        | [x1, x2, x3, x4, x5], ha, hva, hal => exact round_of hmix ha hao hva hb hj hvm hl hlo hroom hkl hln hh hd (fun q d => rd_5_0 w m x1 x2 x3 x4 x5 l q ca cb _ d) (fun q d => rdA_5_0 w m x1 x2 x3 x4 x5 l q ca cb _ d)
        | [x1, x2, x3, x4, x5, x6], ha, hva, hal => exact round_of hmix ha hao hva hb hj hvm hl hlo hroom hkl hln hh hd (fun q d => rd_6_0 w m x1 x2 x3 x4 x5 x6 l q ca cb _ d) (fun q d => rdA_6_0 w m x1 x2 x3 x4 x5 x6 l q ca cb _ d)
        | [x1, x2, x3, x4, x5, x6, x7], ha, hva, hal => exact round_of hmix ha hao hva hb hj hvm hl hlo hroom hkl hln hh hd (fun q d => rd_7_0 w m x1 x2 x3 x4 x5 x6 x7 l q ca cb _ d) (fun q d => rdA_7_0 w m x1 x2 x3 x4 x5 x6 x7 l q ca cb _ d)
        | [x1, x2, x3, x4, x5, x6, x7, x8], ha, hva, hal => exact round_of hmix ha hao hva hb hj hvm hl hlo hroom hkl hln hh hd (fun q d => rd_8_0 w m x1 x2 x3 x4 x5 x6 x7 x8 l q ca cb _ d) (fun q d => rdA_8_0 w m x1 x2 x3 x4 x5 x6 x7 x8 l q ca cb _ d)
        | x1 :: x2 :: x3 :: x4 :: x5 :: x6 :: x7 :: x8 :: x9 :: r, ha, hva, hal => simp only [List.length_cons] at hal; omega
    | 1, hj, hj7, hh =>
      cases oca with
      | none =>
        obtain rfl := hao rfl
        exact round_of hmix ha hao hva hb hj hvm hl hlo hroom hkl hln hh hd (fun q d => rd_n_1 w m l q 0 cb _ d) (fun q d => rdA_n_1 w m l q 0 cb _ d)
      | some ca =>
        match a, ha, hva, hal with
        | [], ha, hva, hal => exact round_of hmix ha hao hva hb hj hvm hl hlo hroom hkl hln hh hd (fun q d => rd_0_1 w m  l q ca cb _ d) (fun q d => rdA_0_1 w m  l q ca cb _ d)
        | [x1], ha, hva, hal => exact round_of hmix ha hao hva hb hj hvm hl hlo hroom hkl hln hh hd (fun q d => rd_1_1 w m x1 l q ca cb _ d) (fun q d => rdA_1_1 w m x1 l q ca cb _ d)
        | [x1, x2], ha, hva, hal => exact round_of hmix ha hao hva hb hj hvm hl hlo hroom hkl hln hh hd (fun q d => rd_2_1 w m x1 x2 l q ca cb _ d) (fun q d => rdA_2_1 w m x1 x2 l q ca cb _ d)
        | [x1, x2, x3], ha, hva, hal => exact round_of hmix ha hao hva hb hj hvm hl hlo hroom hkl hln hh hd (fun q d => rd_3_1 w m x1 x2 x3 l q ca cb _ d) (fun q d => rdA_3_1 w m x1 x2 x3 l q ca cb _ d)
        | [x1, x2, x3, x4], ha, hva, hal => exact round_of hmix ha hao hva hb hj hvm hl hlo hroom hkl hln hh hd (fun q d => rd_4_1 w m x1 x2 x3 x4 l q ca cb _ d) (fun q d => rdA_4_1 w m x1 x2 x3 x4 l q ca cb _ d)
        | [x1, x2, x3, x4, x5], ha, hva, hal => exact round_of hmix ha hao hva hb hj hvm hl hlo hroom hkl hln hh hd (fun q d => rd_5_1 w m x1 x2 x3 x4 x5 l q ca cb _ d) (fun q d => rdA_5_1 w m x1 x2 x3 x4 x5 l q ca cb _ d)
        | [x1, x2, x3, x4, x5, x6], ha, hva, hal => exact round_of hmix ha hao hva hb hj hvm hl hlo hroom hkl hln hh hd (fun q d => rd_6_1 w m x1 x2 x3 x4 x5 x6 l q ca cb _ d) (fun q d => rdA_6_1 w m x1 x2 x3 x4 x5 x6 l q ca cb _ d)
        | [x1, x2, x3, x4, x5, x6, x7], ha, hva, hal => exact round_of hmix ha hao hva hb hj hvm hl hlo hroom hkl hln hh hd (fun q d => rd_7_1 w m x1 x2 x3 x4 x5 x6 x7 l q ca cb _ d) (fun q d => rdA_7_1 w m x1 x2 x3 x4 x5 x6 x7 l q ca cb _ d)
        | [x1, x2, x3, x4, x5, x6, x7, x8], ha, hva, hal => exact round_of hmix ha hao hva hb hj hvm hl hlo hroom hkl hln hh hd (fun q d => rd_8_1 w m x1 x2 x3 x4 x5 x6 x7 x8 l q ca cb _ d) (fun q d => rdA_8_1 w m x1 x2 x3 x4 x5 x6 x7 x8 l q ca cb _ d)
        | x1 :: x2 :: x3 :: x4 :: x5 :: x6 :: x7 :: x8 :: x9 :: r, ha, hva, hal => simp only [List.length_cons] at hal; omega
    | 2, hj, hj7, hh =>
      cases oca with
      | none =>
        obtain rfl := hao rfl
        exact round_of hmix ha hao hva hb hj hvm hl hlo hroom hkl hln hh hd (fun q d => rd_n_2 w m l q 0 cb _ d) (fun q d => rdA_n_2 w m l q 0 cb _ d)
      | some ca =>
        match a, ha, hva, hal with
        | [], ha, hva, hal => exact round_of hmix ha hao hva hb hj hvm hl hlo hroom hkl hln hh hd (fun q d => rd_0_2 w m  l q ca cb _ d) (fun q d => rdA_0_2 w m  l q ca cb _ d)
        | [x1], ha, hva, hal => exact round_of hmix ha hao hva hb hj hvm hl hlo hroom hkl hln hh hd (fun q d => rd_1_2 w m x1 l q ca cb _ d) (fun q d => rdA_1_2 w m x1 l q ca cb _ d)
        | [x1, x2], ha, hva, hal => exact round_of hmix ha hao hva hb hj hvm hl hlo hroom hkl hln hh hd (fun q d => rd_2_2 w m x1 x2 l q ca cb _ d) (fun q d => rdA_2_2 w m x1 x2 l q ca cb _ d)
        | [x1, x2, x3], ha, hva, hal => exact round_of hmix ha hao hva hb hj hvm hl hlo hroom hkl hln hh hd (fun q d => rd_3_2 w m x1 x2 x3 l q ca cb _ d) (fun q d => rdA_3_2 w m x1 x2 x3 l q ca cb _ d)
        | [x1, x2, x3, x4], ha, hva, hal => exact round_of hmix ha hao hva hb hj hvm hl hlo hroom hkl hln hh hd (fun q d => rd_4_2 w m x1 x2 x3 x4 l q ca cb _ d) (fun q d => rdA_4_2 w m x1 x2 x3 x4 l q ca cb _ d)
        | [x1, x2, x3, x4, x5], ha, hva, hal => exact round_of hmix ha hao hva hb hj hvm hl hlo hroom hkl hln hh hd (fun q d => rd_5_2 w m x1 x2 x3 x4 x5 l q ca cb _ d) (fun q d => rdA_5_2 w m x1 x2 x3 x4 x5 l q ca cb _ d)
        | [x1, x2, x3, x4, x5, x6], ha, hva, hal => exact round_of hmix ha hao hva hb hj hvm hl hlo hroom hkl hln hh hd (fun q d => rd_6_2 w m x1 x2 x3 x4 x5 x6 l q ca cb _ d) (fun q d => rdA_6_2 w m x1 x2 x3 x4 x5 x6 l q ca cb _ d)
        | [x1, x2, x3, x4, x5, x6, x7], ha, hva, hal => exact round_of hmix ha hao hva hb hj hvm hl hlo hroom hkl hln hh hd (fun q d => rd_7_2 w m x1 x2 x3 x4 x5 x6 x7 l q ca cb _ d) (fun q d => rdA_7_2 w m x1 x2 x3 x4 x5 x6 x7 l q ca cb _ d)
        | [x1, x2, x3, x4, x5, x6, x7, x8], ha, hva, hal => exact round_of hmix ha hao hva hb hj hvm hl hlo hroom hkl hln hh hd (fun q d => rd_8_2 w m x1 x2 x3 x4 x5 x6 x7 x8 l q ca cb _ d) (fun q d => rdA_8_2 w m x1 x2 x3 x4 x5 x6 x7 x8 l q ca cb _ d)
        | x1 :: x2 :: x3 :: x4 :: x5 :: x6 :: x7 :: x8 :: x9 :: r, ha, hva, hal => simp only [List.length_cons] at hal; omega
    | 3, hj, hj7, hh =>
      cases oca with
      | none =>
        obtain rfl := hao rfl
        exact round_of hmix ha hao hva hb hj hvm hl hlo hroom hkl hln hh hd (fun q d => rd_n_3 w m l q 0 cb _ d) (fun q d => rdA_n_3 w m l q 0 cb _ d)
      | some ca =>
        match a, ha, hva, hal with
        | [], ha, hva, hal => exact round_of hmix ha hao hva hb hj hvm hl hlo hroom hkl hln hh hd (fun q d => rd_0_3 w m  l q ca cb _ d) (fun q d => rdA_0_3 w m  l q ca cb _ d)
        | [x1], ha, hva, hal => exact round_of hmix ha hao hva hb hj hvm hl hlo hroom hkl hln hh hd (fun q d => rd_1_3 w m x1 l q ca cb _ d) (fun q d => rdA_1_3 w m x1 l q ca cb _ d)
        | [x1, x2], ha, hva, hal => exact round_of hmix ha hao hva hb hj hvm hl hlo hroom hkl hln hh hd (fun q d => rd_2_3 w m x1 x2 l q ca cb _ d) (fun q d => rdA_2_3 w m x1 x2 l q ca cb _ d)
        | [x1, x2, x3], ha, hva, hal => exact round_of hmix ha hao hva hb hj hvm hl hlo hroom hkl hln hh hd (fun q d => rd_3_3 w m x1 x2 x3 l q ca cb _ d) (fun q d => rdA_3_3 w m x1 x2 x3 l q ca cb _ d)
        | [x1, x2, x3, x4], ha, hva, hal => exact round_of hmix ha hao hva hb hj hvm hl hlo hroom hkl hln hh hd (fun q d => rd_4_3 w m x1 x2 x3 x4 l q ca cb _ d) (fun q d => rdA_4_3 w m x1 x2 x3 x4 l q ca cb _ d)
        | [x1, x2, x3, x4, x5], ha, hva, hal => exact round_of hmix ha hao hva hb hj hvm hl hlo hroom hkl hln hh hd (fun q d => rd_5_3 w m x1 x2 x3 x4 x5 l q ca cb _ d) (fun q d => rdA_5_3 w m x1 x2 x3 x4 x5 l q ca cb _ d)
        | [x1, x2, x3, x4, x5, x6], ha, hva, hal => exact round_of hmix ha hao hva hb hj hvm hl hlo hroom hkl hln hh hd (fun q d => rd_6_3 w m x1 x2 x3 x4 x5 x6 l q ca cb _ d) (fun q d => rdA_6_3 w m x1 x2 x3 x4 x5 x6 l q ca cb _ d)
        | [x1, x2, x3, x4, x5, x6, x7], ha, hva, hal => exact round_of hmix ha hao hva hb hj hvm hl hlo hroom hkl hln hh hd (fun q d => rd_7_3 w m x1 x2 x3 x4 x5 x6 x7 l q ca cb _ d) (fun q d => rdA_7_3 w m x1 x2 x3 x4 x5 x6 x7 l q ca cb _ d)
        | [x1, x2, x3, x4, x5, x6, x7, x8], ha, hva, hal => exact round_of hmix ha hao hva hb hj hvm hl hlo hroom hkl hln hh hd (fun q d => rd_8_3 w m x1 x2 x3 x4 x5 x6 x7 x8 l q ca cb _ d) (fun q d => rdA_8_3 w m x1 x2 x3 x4 x5 x6 x7 x8 l q ca cb _ d)
        | x1 :: x2 :: x3 :: x4 :: x5 :: x6 :: x7 :: x8 :: x9 :: r, ha, hva, hal => simp only [List.length_cons] at hal; omega
    | 4, hj, hj7, hh =>
      cases oca with
      | none =>
        obtain rfl := hao rfl
        exact round_of hmix ha hao hva hb hj hvm hl hlo hroom hkl hln hh hd (fun q d => rd_n_4 w m l q 0 cb _ d) (fun q d => rdA_n_4 w m l q 0 cb _ d)
      | some ca =>
        match a, ha, hva, hal with
        | [], ha, hva, hal => exact round_of hmix ha hao hva hb hj hvm hl hlo hroom hkl hln hh hd (fun q d => rd_0_4 w m  l q ca cb _ d) (fun q d => rdA_0_4 w m  l q ca cb _ d)
        | [x1], ha, hva, hal => exact round_of hmix ha hao hva hb hj hvm hl hlo hroom hkl hln hh hd (fun q d => rd_1_4 w m x1 l q ca cb _ d) (fun q d => rdA_1_4 w m x1 l q ca cb _ d)
        | [x1, x2], ha, hva, hal => exact round_of hmix ha hao hva hb hj hvm hl hlo hroom hkl hln hh hd (fun q d => rd_2_4 w m x1 x2 l q ca cb _ d) (fun q d => rdA_2_4 w m x1 x2 l q ca cb _ d)
        | [x1, x2, x3], ha, hva, hal => exact round_of hmix ha hao hva hb hj hvm hl hlo hroom hkl hln hh hd (fun q d => rd_3_4 w m x1 x2 x3 l q ca cb _ d) (fun q d => rdA_3_4 w m x1 x2 x3 l q ca cb _ d)
        | [x1, x2, x3, x4], ha, hva, hal => exact round_of hmix ha hao hva hb hj hvm hl hlo hroom hkl hln hh hd (fun q d => rd_4_4 w m x1 x2 x3 x4 l q ca cb _ d) (fun q d => rdA_4_4 w m x1 x2 x3 x4 l q ca cb _ d)
        | [x1, x2, x3, x4, x5], ha, hva, hal => exact round_of hmix ha hao hva hb hj hvm hl hlo hroom hkl hln hh hd (fun q d => rd_5_4 w m x1 x2 x3 x4 x5 l q ca cb _ d) (fun q d => rdA_5_4 w m x1 x2 x3 x4 x5 l q ca cb _ d)
        | [x1, x2, x3, x4, x5, x6], ha, hva, hal => exact round_of hmix ha hao hva hb hj hvm hl hlo hroom hkl hln hh hd (fun q d => rd_6_4 w m x1 x2 x3 x4 x5 x6 l q ca cb _ d) (fun q d => rdA_6_4 w m x1 x2 x3 x4 x5 x6 l q ca cb _ d)
        | [x1, x2, x3, x4, x5, x6, x7], ha, hva, hal => exact round_of hmix ha hao hva hb hj hvm hl hlo hroom hkl hln hh hd (fun q d => rd_7_4 w m x1 x2 x3 x4 x5 x6 x7 l q ca cb _ d) (fun q d => rdA_7_4 w m x1 x2 x3 x4 x5 x6 x7 l q ca cb _ d)
        | [x1, x2, x3, x4, x5, x6, x7, x8], ha, hva, hal => exact round_of hmix ha hao hva hb hj hvm hl hlo hroom hkl hln hh hd (fun q d => rd_8_4 w m x1 x2 x3 x4 x5 x6 x7 x8 l q ca cb _ d) (fun q d => rdA_8_4 w m x1 x2 x3 x4 x5 x6 x7 x8 l q ca cb _ d)
        | x1 :: x2 :: x3 :: x4 :: x5 :: x6 :: x7 :: x8 :: x9 :: r, ha, hva, hal => simp only [List.length_cons] at hal; omega
    | 5, hj, hj7, hh =>
      cases oca with
      | none =>
        obtain rfl := hao rfl
        exact round_of hmix ha hao hva hb hj hvm hl hlo hroom hkl hln hh hd (fun q d => rd_n_5 w m l q 0 cb _ d) (fun q d => rdA_n_5 w m l q 0 cb _ d)
      | some ca =>
        match a, ha, hva, hal with
        | [], ha, hva, hal => exact round_of hmix ha hao hva hb hj hvm hl hlo hroom hkl hln hh hd (fun q d => rd_0_5 w m  l q ca cb _ d) (fun q d => rdA_0_5 w m  l q ca cb _ d)
        | [x1], ha, hva, hal => exact round_of hmix ha hao hva hb hj hvm hl hlo hroom hkl hln hh hd (fun q d => rd_1_5 w m x1 l q ca cb _ d) (fun q d => rdA_1_5 w m x1 l q ca cb _ d)
        | [x1, x2], ha, hva, hal => exact round_of hmix ha hao hva hb hj hvm hl hlo hroom hkl hln hh hd (fun q d => rd_2_5 w m x1 x2 l q ca cb _ d) (fun q d => rdA_2_5 w m x1 x2 l q ca cb _ d)
        | [x1, x2, x3], ha, hva, hal => exact round_of hmix ha hao hva hb hj hvm hl hlo hroom hkl hln hh hd (fun q d => rd_3_5 w m x1 x2 x3 l q ca cb _ d) (fun q d => rdA_3_5 w m x1 x2 x3 l q ca cb _ d)
        | [x1, x2, x3, x4], ha, hva, hal => exact round_of hmix ha hao hva hb hj hvm hl hlo hroom hkl hln hh hd (fun q d => rd_4_5 w m x1 x2 x3 x4 l q ca cb _ d) (fun q d => rdA_4_5 w m x1 x2 x3 x4 l q ca cb _ d)
        | [x1, x2, x3, x4, x5], ha, hva, hal => exact round_of hmix ha hao hva hb hj hvm hl hlo hroom hkl hln hh hd (fun q d => rd_5_5 w m x1 x2 x3 x4 x5 l q ca cb _ d) (fun q d => rdA_5_5 w m x1 x2 x3 x4 x5 l q ca cb _ d)
        | [x1, x2, x3, x4, x5, x6], ha, hva, hal => exact round_of hmix ha hao hva hb hj hvm hl hlo hroom hkl hln hh hd (fun q d => rd_6_5 w m x1 x2 x3 x4 x5 x6 l q ca cb _ d) (fun q d => rdA_6_5 w m x1 x2 x3 x4 x5 x6 l q ca cb _ d)
        | [x1, x2, x3, x4, x5, x6, x7], ha, hva, hal => exact round_of hmix ha hao hva hb hj hvm hl hlo hroom hkl hln hh hd (fun q d => rd_7_5 w m x1 x2 x3 x4 x5 x6 x7 l q ca cb _ d) (fun q d => rdA_7_5 w m x1 x2 x3 x4 x5 x6 x7 l q ca cb _ d)
        | [x1, x2, x3, x4, x5, x6, x7, x8], ha, hva, hal => exact round_of hmix ha hao hva hb hj hvm hl hlo hroom hkl hln hh hd (fun q d => rd_8_5 w m x1 x2 x3 x4 x5 x6 x7 x8 l q ca cb _ d) (fun q d => rdA_8_5 w m x1 x2 x3 x4 x5 x6 x7 x8 l q ca cb _ d)
        | x1 :: x2 :: x3 :: x4 :: x5 :: x6 :: x7 :: x8 :: x9 :: r, ha, hva, hal => simp only [List.length_cons] at hal; omega
    | 6, hj, hj7, hh =>
      cases oca with
      | none =>
        obtain rfl := hao rfl
        exact round_of hmix ha hao hva hb hj hvm hl hlo hroom hkl hln hh hd (fun q d => rd_n_6 w m l q 0 cb _ d) (fun q d => rdA_n_6 w m l q 0 cb _ d)
      | some ca =>
        match a, ha, hva, hal with
        | [], ha, hva, hal => exact round_of hmix ha hao hva hb hj hvm hl hlo hroom hkl hln hh hd (fun q d => rd_0_6 w m  l q ca cb _ d) (fun q d => rdA_0_6 w m  l q ca cb _ d)
        | [x1], ha, hva, hal => exact round_of hmix ha hao hva hb hj hvm hl hlo hroom hkl hln hh hd (fun q d => rd_1_6 w m x1 l q ca cb _ d) (fun q d => rdA_1_6 w m x1 l q ca cb _ d)
        | [x1, x2], ha, hva, hal => exact round_of hmix ha hao hva hb hj hvm hl hlo hroom hkl hln hh hd (fun q d => rd_2_6 w m x1 x2 l q ca cb _ d) (fun q d => rdA_2_6 w m x1 x2 l q ca cb _ d)
        | [x1, x2, x3], ha, hva, hal => exact round_of hmix ha hao hva hb hj hvm hl hlo hroom hkl hln hh hd (fun q d => rd_3_6 w m x1 x2 x3 l q ca cb _ d) (fun q d => rdA_3_6 w m x1 x2 x3 l q ca cb _ d)
        | [x1, x2, x3, x4], ha, hva, hal => exact round_of hmix ha hao hva hb hj hvm hl hlo hroom hkl hln hh hd (fun q d => rd_4_6 w m x1 x2 x3 x4 l q ca cb _ d) (fun q d => rdA_4_6 w m x1 x2 x3 x4 l q ca cb _ d)
        | [x1, x2, x3, x4, x5], ha, hva, hal => exact round_of hmix ha hao hva hb hj hvm hl hlo hroom hkl hln hh hd (fun q d => rd_5_6 w m x1 x2 x3 x4 x5 l q ca cb _ d) (fun q d => rdA_5_6 w m x1 x2 x3 x4 x5 l q ca cb _ d)
        | [x1, x2, x3, x4, x5, x6], ha, hva, hal => exact round_of hmix ha hao hva hb hj hvm hl hlo hroom hkl hln hh hd (fun q d => rd_6_6 w m x1 x2 x3 x4 x5 x6 l q ca cb _ d) (fun q d => rdA_6_6 w m x1 x2 x3 x4 x5 x6 l q ca cb _ d)
        | [x1, x2, x3, x4, x5, x6, x7], ha, hva, hal => exact round_of hmix ha hao hva hb hj hvm hl hlo hroom hkl hln hh hd (fun q d => rd_7_6 w m x1 x2 x3 x4 x5 x6 x7 l q ca cb _ d) (fun q d => rdA_7_6 w m x1 x2 x3 x4 x5 x6 x7 l q ca cb _ d)
        | [x1, x2, x3, x4, x5, x6, x7, x8], ha, hva, hal => exact round_of hmix ha hao hva hb hj hvm hl hlo hroom hkl hln hh hd (fun q d => rd_8_6 w m x1 x2 x3 x4 x5 x6 x7 x8 l q ca cb _ d) (fun q d => rdA_8_6 w m x1 x2 x3 x4 x5 x6 x7 x8 l q ca cb _ d)
        | x1 :: x2 :: x3 :: x4 :: x5 :: x6 :: x7 :: x8 :: x9 :: r, ha, hva, hal => simp only [List.length_cons] at hal; omega
    | 7, hj, hj7, hh =>
      cases oca with
      | none =>
        obtain rfl := hao rfl
        exact round_of hmix ha hao hva hb hj hvm hl hlo hroom hkl hln hh hd (fun q d => rd_n_7 w m l q 0 cb _ d) (fun q d => rdA_n_7 w m l q 0 cb _ d)
      | some ca =>
        match a, ha, hva, hal with
        | [], ha, hva, hal => exact round_of hmix ha hao hva hb hj hvm hl hlo hroom hkl hln hh hd (fun q d => rd_0_7 w m  l q ca cb _ d) (fun q d => rdA_0_7 w m  l q ca cb _ d)
        | [x1], ha, hva, hal => exact round_of hmix ha hao hva hb hj hvm hl hlo hroom hkl hln hh hd (fun q d => rd_1_7 w m x1 l q ca cb _ d) (fun q d => rdA_1_7 w m x1 l q ca cb _ d)
        | [x1, x2], ha, hva, hal => exact round_of hmix ha hao hva hb hj hvm hl hlo hroom hkl hln hh hd (fun q d => rd_2_7 w m x1 x2 l q ca cb _ d) (fun q d => rdA_2_7 w m x1 x2 l q ca cb _ d)
        | [x1, x2, x3], ha, hva, hal => exact round_of hmix ha hao hva hb hj hvm hl hlo hroom hkl hln hh hd (fun q d => rd_3_7 w m x1 x2 x3 l q ca cb _ d) (fun q d => rdA_3_7 w m x1 x2 x3 l q ca cb _ d)
        | [x1, x2, x3, x4], ha, hva, hal => exact round_of hmix ha hao hva hb hj hvm hl hlo hroom hkl hln hh hd (fun q d => rd_4_7 w m x1 x2 x3 x4 l q ca cb _ d) (fun q d => rdA_4_7 w m x1 x2 x3 x4 l q ca cb _ d)
        | [x1, x2, x3, x4, x5], ha, hva, hal => exact round_of hmix ha hao hva hb hj hvm hl hlo hroom hkl hln hh hd (fun q d => rd_5_7 w m x1 x2 x3 x4 x5 l q ca cb _ d) (fun q d => rdA_5_7 w m x1 x2 x3 x4 x5 l q ca cb _ d)
        | [x1, x2, x3, x4, x5, x6], ha, hva, hal => exact round_of hmix ha hao hva hb hj hvm hl hlo hroom hkl hln hh hd (fun q d => rd_6_7 w m x1 x2 x3 x4 x5 x6 l q ca cb _ d) (fun q d => rdA_6_7 w m x1 x2 x3 x4 x5 x6 l q ca cb _ d)
        | [x1, x2, x3, x4, x5, x6, x7], ha, hva, hal => exact round_of hmix ha hao hva hb hj hvm hl hlo hroom hkl hln hh hd (fun q d => rd_7_7 w m x1 x2 x3 x4 x5 x6 x7 l q ca cb _ d) (fun q d => rdA_7_7 w m x1 x2 x3 x4 x5 x6 x7 l q ca cb _ d)
        | [x1, x2, x3, x4, x5, x6, x7, x8], ha, hva, hal => exact round_of hmix ha hao hva hb hj hvm hl hlo hroom hkl hln hh hd (fun q d => rd_8_7 w m x1 x2 x3 x4 x5 x6 x7 x8 l q ca cb _ d) (fun q d => rdA_8_7 w m x1 x2 x3 x4 x5 x6 x7 x8 l q ca cb _ d)
        | x1 :: x2 :: x3 :: x4 :: x5 :: x6 :: x7 :: x8 :: x9 :: r, ha, hva, hal => simp only [List.length_cons] at hal; omega
    | n + 8, hj, hj7, hh => omega
end Go.Proofs.YtilfiadkhohfiaaGreatDoor
/- Layer 2: joins of finds, in runs. -/
set_option linter.unusedVariables false
namespace Go.Proofs.YtilfiadkhohfiaaGreatDoor
set_option linter.unusedSimpArgs false
set_option linter.unusedVariables false
open Go Go.RowKit Go.Clo
noncomputable section
def endG (x : Ex) (t : Fr) (s : St) : Ex × Nat × List V := (x, t.n, [t.get 6])
end
set_option maxRecDepth 100000
theorem ex_0 (W0 : World) (vl : V) (c : List V) (d : Nat → V) : codeG Tryz.prog (semS Tryz.prog W0 1 noTb) 60 body169 (frL (hdL (d 0) vl (d 12) (.ofNat 0) (.ofNat 0) d)) (roSt c) endG = some (.exit 0, 58, [vl]) := by kernel_rfl
theorem exA_0 (W0 : World) (vl : V) (c : List V) (d : Nat → V) : codeA Tryz.prog (semS Tryz.prog W0 1 noTb) 60 body169 (frL (hdL (d 0) vl (d 12) (.ofNat 0) (.ofNat 0) d)) (roSt c) false = codeA Tryz.prog (semS Tryz.prog W0 1 noTb) 60 body169 (frL (hdL (d 0) vl (d 12) (.ofNat 0) (.ofNat 0) d)) (roSt c) true := by kernel_rfl
theorem ex_1 (W0 : World) (vl : V) (c : List V) (d : Nat → V) : codeG Tryz.prog (semS Tryz.prog W0 1 noTb) 60 body169 (frL (hdL (d 0) vl (d 12) (.ofNat 1) (.ofNat 1) d)) (roSt c) endG = some (.exit 0, 58, [vl]) := by kernel_rfl
theorem exA_1 (W0 : World) (vl : V) (c : List V) (d : Nat → V) : codeA Tryz.prog (semS Tryz.prog W0 1 noTb) 60 body169 (frL (hdL (d 0) vl (d 12) (.ofNat 1) (.ofNat 1) d)) (roSt c) false = codeA Tryz.prog (semS Tryz.prog W0 1 noTb) 60 body169 (frL (hdL (d 0) vl (d 12) (.ofNat 1) (.ofNat 1) d)) (roSt c) true := by kernel_rfl
theorem ex_2 (W0 : World) (vl : V) (c : List V) (d : Nat → V) : codeG Tryz.prog (semS Tryz.prog W0 1 noTb) 60 body169 (frL (hdL (d 0) vl (d 12) (.ofNat 2) (.ofNat 2) d)) (roSt c) endG = some (.exit 0, 58, [vl]) := by kernel_rfl
theorem exA_2 (W0 : World) (vl : V) (c : List V) (d : Nat → V) : codeA Tryz.prog (semS Tryz.prog W0 1 noTb) 60 body169 (frL (hdL (d 0) vl (d 12) (.ofNat 2) (.ofNat 2) d)) (roSt c) false = codeA Tryz.prog (semS Tryz.prog W0 1 noTb) 60 body169 (frL (hdL (d 0) vl (d 12) (.ofNat 2) (.ofNat 2) d)) (roSt c) true := by kernel_rfl
theorem ex_3 (W0 : World) (vl : V) (c : List V) (d : Nat → V) : codeG Tryz.prog (semS Tryz.prog W0 1 noTb) 60 body169 (frL (hdL (d 0) vl (d 12) (.ofNat 3) (.ofNat 3) d)) (roSt c) endG = some (.exit 0, 58, [vl]) := by kernel_rfl
theorem exA_3 (W0 : World) (vl : V) (c : List V) (d : Nat → V) : codeA Tryz.prog (semS Tryz.prog W0 1 noTb) 60 body169 (frL (hdL (d 0) vl (d 12) (.ofNat 3) (.ofNat 3) d)) (roSt c) false = codeA Tryz.prog (semS Tryz.prog W0 1 noTb) 60 body169 (frL (hdL (d 0) vl (d 12) (.ofNat 3) (.ofNat 3) d)) (roSt c) true := by kernel_rfl
theorem ex_4 (W0 : World) (vl : V) (c : List V) (d : Nat → V) : codeG Tryz.prog (semS Tryz.prog W0 1 noTb) 60 body169 (frL (hdL (d 0) vl (d 12) (.ofNat 4) (.ofNat 4) d)) (roSt c) endG = some (.exit 0, 58, [vl]) := by kernel_rfl
theorem exA_4 (W0 : World) (vl : V) (c : List V) (d : Nat → V) : codeA Tryz.prog (semS Tryz.prog W0 1 noTb) 60 body169 (frL (hdL (d 0) vl (d 12) (.ofNat 4) (.ofNat 4) d)) (roSt c) false = codeA Tryz.prog (semS Tryz.prog W0 1 noTb) 60 body169 (frL (hdL (d 0) vl (d 12) (.ofNat 4) (.ofNat 4) d)) (roSt c) true := by kernel_rfl
theorem ex_5 (W0 : World) (vl : V) (c : List V) (d : Nat → V) : codeG Tryz.prog (semS Tryz.prog W0 1 noTb) 60 body169 (frL (hdL (d 0) vl (d 12) (.ofNat 5) (.ofNat 5) d)) (roSt c) endG = some (.exit 0, 58, [vl]) := by kernel_rfl
theorem exA_5 (W0 : World) (vl : V) (c : List V) (d : Nat → V) : codeA Tryz.prog (semS Tryz.prog W0 1 noTb) 60 body169 (frL (hdL (d 0) vl (d 12) (.ofNat 5) (.ofNat 5) d)) (roSt c) false = codeA Tryz.prog (semS Tryz.prog W0 1 noTb) 60 body169 (frL (hdL (d 0) vl (d 12) (.ofNat 5) (.ofNat 5) d)) (roSt c) true := by kernel_rfl
theorem ex_6 (W0 : World) (vl : V) (c : List V) (d : Nat → V) : codeG Tryz.prog (semS Tryz.prog W0 1 noTb) 60 body169 (frL (hdL (d 0) vl (d 12) (.ofNat 6) (.ofNat 6) d)) (roSt c) endG = some (.exit 0, 58, [vl]) := by kernel_rfl
theorem exA_6 (W0 : World) (vl : V) (c : List V) (d : Nat → V) : codeA Tryz.prog (semS Tryz.prog W0 1 noTb) 60 body169 (frL (hdL (d 0) vl (d 12) (.ofNat 6) (.ofNat 6) d)) (roSt c) false = codeA Tryz.prog (semS Tryz.prog W0 1 noTb) 60 body169 (frL (hdL (d 0) vl (d 12) (.ofNat 6) (.ofNat 6) d)) (roSt c) true := by kernel_rfl
theorem ex_7 (W0 : World) (vl : V) (c : List V) (d : Nat → V) : codeG Tryz.prog (semS Tryz.prog W0 1 noTb) 60 body169 (frL (hdL (d 0) vl (d 12) (.ofNat 7) (.ofNat 7) d)) (roSt c) endG = some (.exit 0, 58, [vl]) := by kernel_rfl
theorem exA_7 (W0 : World) (vl : V) (c : List V) (d : Nat → V) : codeA Tryz.prog (semS Tryz.prog W0 1 noTb) 60 body169 (frL (hdL (d 0) vl (d 12) (.ofNat 7) (.ofNat 7) d)) (roSt c) false = codeA Tryz.prog (semS Tryz.prog W0 1 noTb) 60 body169 (frL (hdL (d 0) vl (d 12) (.ofNat 7) (.ofNat 7) d)) (roSt c) true := by kernel_rfl
theorem ex_8 (W0 : World) (vl : V) (c : List V) (d : Nat → V) : codeG Tryz.prog (semS Tryz.prog W0 1 noTb) 60 body169 (frL (hdL (d 0) vl (d 12) (.ofNat 8) (.ofNat 8) d)) (roSt c) endG = some (.exit 0, 58, [vl]) := by kernel_rfl
theorem exA_8 (W0 : World) (vl : V) (c : List V) (d : Nat → V) : codeA Tryz.prog (semS Tryz.prog W0 1 noTb) 60 body169 (frL (hdL (d 0) vl (d 12) (.ofNat 8) (.ofNat 8) d)) (roSt c) false = codeA Tryz.prog (semS Tryz.prog W0 1 noTb) 60 body169 (frL (hdL (d 0) vl (d 12) (.ofNat 8) (.ofNat 8) d)) (roSt c) true := by kernel_rfl
/-- The loop's end. -/
theorem exit_of (hmix : Tryz.prog.follows .mixedOrders = true) {w : World} {act : Act} {ams bms lms : Value} {ocl : Option Nat} {l : List Mea} {n : Nat}
    (hl : MeaAt w lms ocl l) (hh : Head act.tmps ams lms bms n n) (hd : act.defers = [])
    (hv : ∀ d : Nat → V, codeG Tryz.prog (semS Tryz.prog w 1 noTb) 60 body169 (frL (hdL (d 0) (mvOf 0 ocl l) (d 12) (.ofNat n) (.ofNat n) d)) (roSt (meaC l)) endG = some (.exit 0, 58, [mvOf 0 ocl l]))
    (hA : ∀ d : Nat → V, codeA Tryz.prog (semS Tryz.prog w 1 noTb) 60 body169 (frL (hdL (d 0) (mvOf 0 ocl l) (d 12) (.ofNat n) (.ofNat n) d)) (roSt (meaC l)) false = codeA Tryz.prog (semS Tryz.prog w 1 noTb) 60 body169 (frL (hdL (d 0) (mvOf 0 ocl l) (d 12) (.ofNat n) (.ofNat n) d)) (roSt (meaC l)) true) :
    body169.wp Tryz.prog (fun e a' w' => e = .exit 0 ∧ Below w.heap.size w w' ∧ a'.defers = [] ∧ a'.tmps.size = 58 ∧ a'.tmps.getD 6 undef = lms) act w := by
  obtain ⟨ρ, hR, el⟩ := hl.rel (Below.refl _ _)
  have hch : ∃ d : Nat → V, ∀ i, E ρ (d i) (act.tmps.getD i undef) := ⟨fun i => Classical.choose (E.some ρ (act.tmps.getD i undef)), fun i => Classical.choose_spec (E.some ρ (act.tmps.getD i undef))⟩
  obtain ⟨d, hdd⟩ := hch
  have hF : FrE ρ (frL (hdL (d 0) (mvOf 0 ocl l) (d 12) (.ofNat n) (.ofNat n) d)) act.tmps :=
    hdL_ok hh.size (hdd 0) (by rw [hh.h6]; exact el) (hdd 12) (by rw [hh.h13]; exact E_i64 _) (by rw [hh.h14]; exact E_i64 _) hdd
  refine wp_mono (codeG_step hmix (hv d) (hA d) hR hF hd) ?_
  rintro e a' w' ⟨x, t', s', ⟨rfl, hd', ρ', hst, hf⟩, hg⟩
  simp only [endG, Prod.mk.injEq, List.cons.injEq] at hg
  obtain ⟨rfl, gn, g6, _⟩ := hg
  have e6 := hf.2 6
  rw [g6] at e6
  exact ⟨rfl, Step.belowOf hR hst noImg_ro, hd', hf.1.trans gn, mv_fun e6 (E.mono hst.le _ el)⟩
theorem exit_any (hmix : Tryz.prog.follows .mixedOrders = true) {w : World} {act : Act} {ams bms lms : Value} {ocl : Option Nat} {l : List Mea} {n : Nat}
    (hl : MeaAt w lms ocl l) (hh : Head act.tmps ams lms bms n n) (hd : act.defers = []) (hn : n ≤ 8) :
    body169.wp Tryz.prog (fun e a' w' => e = .exit 0 ∧ Below w.heap.size w w' ∧ a'.defers = [] ∧ a'.tmps.size = 58 ∧ a'.tmps.getD 6 undef = lms) act w := by
  match n, hh, hn with
  | 0, hh, _ => exact exit_of hmix hl hh hd (fun d => ex_0 w _ _ d) (fun d => exA_0 w _ _ d)
  | 1, hh, _ => exact exit_of hmix hl hh hd (fun d => ex_1 w _ _ d) (fun d => exA_1 w _ _ d)
  | 2, hh, _ => exact exit_of hmix hl hh hd (fun d => ex_2 w _ _ d) (fun d => exA_2 w _ _ d)
  | 3, hh, _ => exact exit_of hmix hl hh hd (fun d => ex_3 w _ _ d) (fun d => exA_3 w _ _ d)
  | 4, hh, _ => exact exit_of hmix hl hh hd (fun d => ex_4 w _ _ d) (fun d => exA_4 w _ _ d)
  | 5, hh, _ => exact exit_of hmix hl hh hd (fun d => ex_5 w _ _ d) (fun d => exA_5 w _ _ d)
  | 6, hh, _ => exact exit_of hmix hl hh hd (fun d => ex_6 w _ _ d) (fun d => exA_6 w _ _ d)
  | 7, hh, _ => exact exit_of hmix hl hh hd (fun d => ex_7 w _ _ d) (fun d => exA_7 w _ _ d)
  | 8, hh, _ => exact exit_of hmix hl hh hd (fun d => ex_8 w _ _ d) (fun d => exA_8 w _ _ d)
  | n + 9, _, hn => omega
theorem kinds_from {c : Int} : ∀ {l : List Mea}, okL c l → ∀ (i : Nat) (x : Mea), l[i]? = some x → c < x.1 ∧ x.1 ≤ 15
  | [], _, i, x, h => by simp at h
  | y :: l, ho, 0, x, h => by have : y = x := by simpa using h
                              subst this; exact ⟨ho.1, ho.2.1⟩
  | y :: l, ho, i + 1, x, h => by
    have := kinds_from (l := l) ho.2.2 i x (by simpa using h)
    exact ⟨by have := ho.1; omega, this.2⟩
theorem kinds_grow {c : Int} : ∀ {l : List Mea}, okL c l → ∀ (i j : Nat) (x y : Mea), i < j → l[i]? = some x → l[j]? = some y → x.1 < y.1
  | [], _, i, j, x, y, _, h, _ => by simp at h
  | z :: l, ho, 0, j + 1, x, y, _, h, h' => by
    have : z = x := by simpa using h
    subst this
    exact (kinds_from ho.2.2 j y (by simpa using h')).1
  | z :: l, ho, i + 1, j + 1, x, y, hij, h, h' => kinds_grow ho.2.2 i j x y (by omega) (by simpa using h) (by simpa using h')
theorem kinds_ok {l : List Mea} (h : okL (-1) l) : Kinds l :=
  ⟨fun i x hx => by have := kinds_from h i x hx; omega, kinds_grow h⟩
theorem insM_len (m : Mea) : ∀ l : List Mea, (insM m l).length ≤ l.length + 1
  | [] => by simp [insM]
  | x :: l => by
    rw [insM_cons]
    have := insM_len m l
    split
    · simp only [List.length_cons]; omega
    · split <;> simp
theorem NewAt.le {N N' : Nat} {w : World} {u : Value} {l : List Mea} (h : NewAt N w u l) (hN : N' ≤ N) : NewAt N' w u l := by
  obtain ⟨blk, off, cap, xs, ty, e, h1, h2⟩ := h
  exact ⟨blk, off, cap, xs, ty, e, Nat.le_trans hN h1, h2⟩
theorem NewAt.below {N : Nat} {w w' : World} {u : Value} {l : List Mea} (h : NewAt N w u l) (hb : Below w.heap.size w w') : NewAt N w' u l := by
  obtain ⟨blk, off, cap, xs, ty, e, h1, h2, h3⟩ := h
  have hlt : blk < w.heap.size := by
    by_cases hh : blk < w.heap.size
    · exact hh
    · rw [Array.getElem?_eq_none (by omega)] at h2; cases h2
  exact ⟨blk, off, cap, xs, ty, e, h1, (hb.block blk hlt).trans h2, h3⟩
theorem below_tr {w0 w1 w2 : World} (h : Below w0.heap.size w0 w1) (k : Below w1.heap.size w1 w2) : Below w0.heap.size w0 w2 := h.trans (k.mono h.size)
/-- All rounds. -/
theorem rounds_any (hmix : Tryz.prog.follows .mixedOrders = true) {Q : Exit → Act → World → Prop} {W : World} {ams bms : Value} {oca ocb : Option Nat} {a b : List Mea} {J : Option (List Mea)}
    (ha : MeaAt W ams oca a) (hao : oca = none → a = []) (hal : a.length ≤ 8) (hva : ∀ x ∈ a, okV x) (hb : MeaAt W bms ocb b) (hbl : b.length ≤ 8) (hvb : ∀ x ∈ b, okV x)
    (hstop : ∀ (a' : Act) (w' : World), Below W.heap.size W w' → a'.defers = [] → J = none → a'.tmps.getD 4 undef = .slice none 0 0 → a'.tmps.getD 5 undef = .bool false → Q .ret a' w')
    (hend : ∀ (a' : Act) (w' : World) (lms : Value) (ocl : Option Nat) (l : List Mea), Below W.heap.size W w' → a'.defers = [] → a'.tmps.size = 58 → J = some l → okL (-1) l → MeaAt w' lms ocl l → (ocl = none → l = []) → Room ocl l → ((b = [] ∧ lms = ams ∧ l = a) ∨ (b ≠ [] ∧ NewAt W.heap.size w' lms l)) → a'.tmps.getD 6 undef = lms → Q (.exit 0) a' w') :
    ∀ (r : List Mea) (j : Nat), b.drop j = r → j + r.length = b.length → ∀ (l : List Mea) (lms : Value) (ocl : Option Nat) (w : World) (act : Act), Below W.heap.size W w → MeaAt w lms ocl l → (ocl = none → l = []) → Room ocl l → okL (-1) l → l.length ≤ 8 + j → ((r = b ∧ lms = ams ∧ l = a) ∨ (b ≠ [] ∧ NewAt W.heap.size w lms l)) →
      joinM a l r = J → Head act.tmps ams lms bms b.length j → act.defers = [] → Code.rounds Tryz.prog body169 Q (r.length + 1) act w
  | [], j, hr, hj, l, lms, ocl, w, act, hw, hl, hlo, hroom, hok, hlen, hN, hJ, hh, hd => by
    have hj : j = b.length := by simpa using hj
    subst hj
    refine wp_mono (exit_any hmix hl hh hd hbl) ?_
    rintro e a' w' ⟨rfl, hbel, hd', hs, h6⟩
    exact hend a' w' lms ocl l (below_tr hw hbel) hd' hs hJ.symm hok (hl.below hbel) hlo hroom (hN.imp (fun h => ⟨h.1.symm, h.2⟩) (fun h => ⟨h.1, h.2.below hbel⟩)) h6
  | m :: r, j, hr, hj, l, lms, ocl, w, act, hw, hl, hlo, hroom, hok, hlen, hN, hJ, hh, hd => by
    have hjl : j < b.length := by simp only [List.length_cons] at hj; omega
    have hbj : b[j]? = some m := by
      have := congrArg (fun l => l[0]?) hr
      simpa using this
    have hr' : b.drop (j + 1) = r := by
      have := congrArg (List.drop 1) hr
      simpa [List.drop_drop, Nat.add_comm] using this
    have hm : okV m := hvb m (List.mem_of_getElem? hbj)
    refine wp_mono (round_any hmix (ha.below hw) hao hal hva (hb.below hw) hbj (by omega) hm hl hlo hroom (kinds_ok hok) (by omega) hh hd) ?_
    rintro e a' w' ⟨hbel, hd', hs, h⟩
    rw [joinM_step] at hJ
    rcases h with ⟨rfl, h1, h4, h5⟩ | ⟨rfl, m', lms', h1, hnew, hh'⟩
    · rw [h1] at hJ
      exact hstop a' w' (below_tr hw hbel) hd' hJ.symm h4 h5
    · rw [h1] at hJ
      obtain ⟨cap, hM, hcap⟩ := hnew.mea
      have hk := stepM_kind h1
      refine rounds_any hmix ha hao hal hva hb hbl hvb hstop hend r (j + 1) hr' (by simp only [List.length_cons] at hj; omega) (insM m' l) lms' (some cap) w' a' (below_tr hw hbel) hM (fun e => by cases e) (fun c e => by injection e with e; omega)
        (okM_insM (by rw [hk]; exact hm.2.1) (by rw [hk]; have := hm.1; omega) hok) (by have := insM_len m' l; omega) (.inr ⟨by rintro rfl; simp at hr, hnew.le hw.size⟩) hJ hh' hd'
end Go.Proofs.YtilfiadkhohfiaaGreatDoor
/- Layer 2: joins of finds, in runs. -/
set_option linter.unusedVariables false
namespace Go.Proofs.YtilfiadkhohfiaaGreatDoor
set_option linter.unusedSimpArgs false
set_option linter.unusedVariables false
open Go Go.RowKit Go.Clo
noncomputable section
def b169 : Code := ((Tryz.prog.funcs[169]?).bind (·.body)).getD .skip
def c1 : Code := match b169 with | .seq a _ => a | _ => .skip
def c2 : Code := match b169 with | .seq _ (.seq a _) => a | _ => .skip
def c3 : Code := match b169 with | .seq _ (.seq _ (.seq (.seq a _) _)) => a | _ => .skip
def c4 : Code := match b169 with | .seq _ (.seq _ (.seq _ e)) => e | _ => .skip
def f169 : Func := (Tryz.prog.funcs[169]?).getD default
def proG (x : Ex) (t : Fr) (s : St) : Ex × Nat × List V := (x, t.n, [t.get 0, t.get 6, t.get 12, t.get 13, t.get 14])
def edL (vl : V) (d : Nat → V) : List V := [d 0, d 1, d 2, d 3, d 4, d 5, vl, d 7, d 8, d 9, d 10, d 11, d 12, d 13, d 14, d 15, d 16, d 17, d 18, d 19, d 20, d 21, d 22, d 23, d 24, d 25, d 26, d 27, d 28, d 29, d 30, d 31, d 32, d 33, d 34, d 35, d 36, d 37, d 38, d 39, d 40, d 41, d 42, d 43, d 44, d 45, d 46, d 47, d 48, d 49, d 50, d 51, d 52, d 53, d 54, d 55, d 56, d 57]
def epiG (x : Ex) (t : Fr) (s : St) : Ex × Nat × List V := (x, t.n, [t.get 4, t.get 5])
end
set_option maxRecDepth 100000
theorem b169_eq : b169 = .seq c1 (.seq c2 (.seq (.seq c3 (.block 0 (.loop body169))) c4)) := by kernel_rfl
theorem f169_get : Tryz.prog.funcs[169]? = some f169 := by kernel_rfl
theorem f169_body : f169.body = some b169 := by kernel_rfl
theorem f169_res : f169.results = #[.tmp 4, .tmp 5] := by kernel_rfl
theorem f169_tmps : f169.ntmps = 58 := by kernel_rfl
theorem pro_s (W0 : World) (av : V) (c c' : List V) (nb cb : Nat) : codeG Tryz.prog (semS Tryz.prog W0 1 noTb) 60 (.seq c1 (.seq c2 c3)) (enterF [av, .sl 1 0 nb (.exact cb)] 58) (st2 c c') proG = some (.normal, 58, [av, av, .sl 1 0 nb (.exact cb), i64 (.ofNat nb), i64 0]) := by kernel_rfl
theorem proA_s (W0 : World) (av : V) (c c' : List V) (nb cb : Nat) : codeA Tryz.prog (semS Tryz.prog W0 1 noTb) 60 (.seq c1 (.seq c2 c3)) (enterF [av, .sl 1 0 nb (.exact cb)] 58) (st2 c c') false = codeA Tryz.prog (semS Tryz.prog W0 1 noTb) 60 (.seq c1 (.seq c2 c3)) (enterF [av, .sl 1 0 nb (.exact cb)] 58) (st2 c c') true := by kernel_rfl
theorem pro_n (W0 : World) (av : V) (c c' : List V) : codeG Tryz.prog (semS Tryz.prog W0 1 noTb) 60 (.seq c1 (.seq c2 c3)) (enterF [av, .nils] 58) (st2 c c') proG = some (.normal, 58, [av, av, .nils, i64 0, i64 0]) := by kernel_rfl
theorem proA_n (W0 : World) (av : V) (c c' : List V) : codeA Tryz.prog (semS Tryz.prog W0 1 noTb) 60 (.seq c1 (.seq c2 c3)) (enterF [av, .nils] 58) (st2 c c') false = codeA Tryz.prog (semS Tryz.prog W0 1 noTb) 60 (.seq c1 (.seq c2 c3)) (enterF [av, .nils] 58) (st2 c c') true := by kernel_rfl
theorem epi_s (W0 : World) (c : List V) (n cap : Nat) (d : Nat → V) : codeG Tryz.prog (semS Tryz.prog W0 1 noTb) 60 c4 (frL (edL (.sl 0 0 n (.exact cap)) d)) (roSt c) epiG = some (.ret, 58, [.sl 0 0 n (.exact cap), .bool (!intLt 8 (.ofNat n))]) := by kernel_rfl
theorem epiA_s (W0 : World) (c : List V) (n cap : Nat) (d : Nat → V) : codeA Tryz.prog (semS Tryz.prog W0 1 noTb) 60 c4 (frL (edL (.sl 0 0 n (.exact cap)) d)) (roSt c) false = codeA Tryz.prog (semS Tryz.prog W0 1 noTb) 60 c4 (frL (edL (.sl 0 0 n (.exact cap)) d)) (roSt c) true := by kernel_rfl
theorem epi_n (W0 : World) (c : List V) (d : Nat → V) : codeG Tryz.prog (semS Tryz.prog W0 1 noTb) 60 c4 (frL (edL .nils d)) (roSt c) epiG = some (.ret, 58, [.nils, .bool true]) := by kernel_rfl
theorem epiA_n (W0 : World) (c : List V) (d : Nat → V) : codeA Tryz.prog (semS Tryz.prog W0 1 noTb) 60 c4 (frL (edL .nils d)) (roSt c) false = codeA Tryz.prog (semS Tryz.prog W0 1 noTb) 60 c4 (frL (edL .nils d)) (roSt c) true := by kernel_rfl
end Go.Proofs.YtilfiadkhohfiaaGreatDoor
/- Layer 2: joins of finds, in runs. -/
set_option linter.unusedVariables false
set_option maxRecDepth 100000
namespace Go.Proofs.YtilfiadkhohfiaaGreatDoor
set_option linter.unusedSimpArgs false
set_option linter.unusedVariables false
open Go Go.RowKit Go.Clo

theorem res45 {fn : Func} (h : fn.results = #[.tmp 4, .tmp 5]) (tm : Array Value) (w : World) {P : Program} : (results fn tm).run P w = .ok (.tuple #[tm.getD 4 undef, tm.getD 5 undef]) w := by
  rw [results_eq, h]
  simp [resOne]
theorem edL_ok {ρ : Rho} {vl : V} {d : Nat → V} {tm : Array Value} (hs : tm.size = 58) (h6 : E ρ vl (tm.getD 6 undef)) (hd : ∀ i, E ρ (d i) (tm.getD i undef)) : FrE ρ (frL (edL vl d)) tm := frL_ok (by rw [hs]; rfl) fun i v hi => match i, hi with
  | 0, hi => Option.some.inj hi ▸ hd 0
  | 1, hi => Option.some.inj hi ▸ hd 1
  | 2, hi => Option.some.inj hi ▸ hd 2
  | 3, hi => Option.some.inj hi ▸ hd 3
  | 4, hi => Option.some.inj hi ▸ hd 4
  | 5, hi => Option.some.inj hi ▸ hd 5
  | 6, hi => Option.some.inj hi ▸ h6
  | 7, hi => Option.some.inj hi ▸ hd 7
  | 8, hi => Option.some.inj hi ▸ hd 8
  | 9, hi => Option.some.inj hi ▸ hd 9
  | 10, hi => Option.some.inj hi ▸ hd 10
  | 11, hi => Option.some.inj hi ▸ hd 11
  | 12, hi => Option.some.inj hi ▸ hd 12
  | 13, hi => Option.some.inj hi ▸ hd 13
  | 14, hi => Option.some.inj hi ▸ hd 14
  | 15, hi => Option.some.inj hi ▸ hd 15
  | 16, hi => Option.some.inj hi ▸ hd 16
  | 17, hi => Option.some.inj hi ▸ hd 17
  | 18, hi => Option.some.inj hi ▸ hd 18
  | 19, hi => Option.some.inj hi ▸ hd 19
  | 20, hi => Option.some.inj hi ▸ hd 20
  | 21, hi => Option.some.inj hi ▸ hd 21
  | 22, hi => Option.some.inj hi ▸ hd 22
  | 23, hi => Option.some.inj hi ▸ hd 23
  | 24, hi => Option.some.inj hi ▸ hd 24
  | 25, hi => Option.some.inj hi ▸ hd 25
  | 26, hi => Option.some.inj hi ▸ hd 26
  | 27, hi => Option.some.inj hi ▸ hd 27
  | 28, hi => Option.some.inj hi ▸ hd 28
  | 29, hi => Option.some.inj hi ▸ hd 29
  | 30, hi => Option.some.inj hi ▸ hd 30
  | 31, hi => Option.some.inj hi ▸ hd 31
  | 32, hi => Option.some.inj hi ▸ hd 32
  | 33, hi => Option.some.inj hi ▸ hd 33
  | 34, hi => Option.some.inj hi ▸ hd 34
  | 35, hi => Option.some.inj hi ▸ hd 35
  | 36, hi => Option.some.inj hi ▸ hd 36
  | 37, hi => Option.some.inj hi ▸ hd 37
  | 38, hi => Option.some.inj hi ▸ hd 38
  | 39, hi => Option.some.inj hi ▸ hd 39
  | 40, hi => Option.some.inj hi ▸ hd 40
  | 41, hi => Option.some.inj hi ▸ hd 41
  | 42, hi => Option.some.inj hi ▸ hd 42
  | 43, hi => Option.some.inj hi ▸ hd 43
  | 44, hi => Option.some.inj hi ▸ hd 44
  | 45, hi => Option.some.inj hi ▸ hd 45
  | 46, hi => Option.some.inj hi ▸ hd 46
  | 47, hi => Option.some.inj hi ▸ hd 47
  | 48, hi => Option.some.inj hi ▸ hd 48
  | 49, hi => Option.some.inj hi ▸ hd 49
  | 50, hi => Option.some.inj hi ▸ hd 50
  | 51, hi => Option.some.inj hi ▸ hd 51
  | 52, hi => Option.some.inj hi ▸ hd 52
  | 53, hi => Option.some.inj hi ▸ hd 53
  | 54, hi => Option.some.inj hi ▸ hd 54
  | 55, hi => Option.some.inj hi ▸ hd 55
  | 56, hi => Option.some.inj hi ▸ hd 56
  | 57, hi => Option.some.inj hi ▸ hd 57
  | n + 58, hi => nomatch (show none = some v from hi)
/-- Three pieces, one behind the other. -/
theorem run3 (hmix : Tryz.prog.follows .mixedOrders = true) {W0 : World} {H : Hook} (hH : HookOK Tryz.prog W0 H) {N n : Nat} (hN : N = n + 2) {d1 d2 d3 : Code} {t t' : Fr} {s s' : St} (h : exec Tryz.prog H N (.seq d1 (.seq d2 d3)) t s = .ok .normal t' s')
    {ρ : Rho} {w : World} {a : Act} (hR : Rel W0 ρ s w) (hf : FrE ρ t a.tmps) (hd : a.defers = []) {K : Act → World → Prop} {Q : Exit → Act → World → Prop} (hK : ∀ a' w', Post W0 ρ s w .normal t' s' .normal a' w' → K a' w') :
    d1.wp Tryz.prog (Exit.then (fun a w => d2.wp Tryz.prog (Exit.then (fun a w => d3.wp Tryz.prog (Exit.then K Q) a w) Q) a w) Q) a w := by
  subst hN
  have h : thenV (exec Tryz.prog H (n + 1) d1 t s) (exec Tryz.prog H (n + 1) (.seq d2 d3)) = .ok .normal t' s' := h
  obtain ⟨x1, t1, s1, h1, h2⟩ := thenV_ok h
  rcases h2 with ⟨rfl, h2⟩ | ⟨hne, rfl, _⟩
  · refine wp_mono (runs_ok hmix hH _ _ _ _ _ _ _ h1 ρ w a hR hf hd) ?_
    rintro e a1 w1 ⟨rfl, hd1, ρ1, hst1, hf1⟩
    have h2 : thenV (exec Tryz.prog H n d2 t1 s1) (exec Tryz.prog H n d3) = .ok .normal t' s' := h2
    obtain ⟨x2, t2, s2, h3, h4⟩ := thenV_ok h2
    rcases h4 with ⟨rfl, h4⟩ | ⟨hne, rfl, _⟩
    · show d2.wp _ _ _ _
      refine wp_mono (runs_ok hmix hH _ _ _ _ _ _ _ h3 ρ1 w1 a1 hst1.rel hf1 hd1) ?_
      rintro e a2 w2 ⟨rfl, hd2, ρ2, hst2, hf2⟩
      show d3.wp _ _ _ _
      refine wp_mono (runs_ok hmix hH _ _ _ _ _ _ _ h4 ρ2 w2 a2 hst2.rel hf2 hd2) ?_
      rintro e a3 w3 ⟨rfl, hd3, ρ3, hst3, hf3⟩
      exact hK a3 w3 ⟨rfl, hd3, ρ3, (hst1.trans hst2).trans hst3, hf3⟩
    · exact absurd rfl hne
  · exact absurd rfl hne
/-- What the loop begins with. -/
theorem pro_any (hmix : Tryz.prog.follows .mixedOrders = true) {W : World} {ams bms : Value} {oca ocb : Option Nat} {a b : List Mea} (ha : MeaAt W ams oca a) (hb : MeaAt W bms ocb b) {K : Act → World → Prop} {Q : Exit → Act → World → Prop}
    (hK : ∀ a' w', Below W.heap.size W w' → a'.defers = [] → Head a'.tmps ams ams bms b.length 0 → K a' w') :
    c1.wp Tryz.prog (Exit.then (fun a w => c2.wp Tryz.prog (Exit.then (fun a w => c3.wp Tryz.prog (Exit.then K Q) a w) Q) a w) Q) { tmps := #[ams, bms] ++ Array.replicate (58 - 2) undef, defers := [] } W := by
  obtain ⟨ρ1, _, hR1, ea⟩ := ha.add (Rel.start' (Below.refl W.heap.size W))
  obtain ⟨ρ2, le2, hR2, eb⟩ := hb.add hR1
  have ea := E.mono le2 _ ea
  have core : ∀ {nb : Int}, nb = b.length → (∃ t' s', exec Tryz.prog (hookOf (semS Tryz.prog W 1 noTb)) 60 (.seq c1 (.seq c2 c3)) (enterF [mvOf 0 oca a, mvOf 1 ocb b] 58) (st2 (meaC a) (meaC b)) = .ok .normal t' s' ∧ t'.n = 58 ∧ t'.get 0 = mvOf 0 oca a ∧ t'.get 6 = mvOf 0 oca a ∧ t'.get 12 = mvOf 1 ocb b ∧ t'.get 13 = i64 nb ∧ t'.get 14 = i64 0) →
      c1.wp Tryz.prog (Exit.then (fun a w => c2.wp Tryz.prog (Exit.then (fun a w => c3.wp Tryz.prog (Exit.then K Q) a w) Q) a w) Q) { tmps := #[ams, bms] ++ Array.replicate (58 - 2) undef, defers := [] } W := by
    rintro nb hnb ⟨t', s', hx, gn, g0, g6, g12, g13, g14⟩
    have hF : FrE ρ2 (enterF [mvOf 0 oca a, mvOf 1 ocb b] 58) (#[ams, bms] ++ Array.replicate (58 - 2) undef) := enterF_ok (EL.cons ea (EL.cons eb EL.nil)) 58
    refine run3 (a := { tmps := #[ams, bms] ++ Array.replicate (58 - 2) undef, defers := [] }) hmix semS_ok (n := 58) rfl hx hR2 hF rfl ?_
    rintro a' w' ⟨_, hd', ρ', hst, hf⟩
    have e0 := hf.2 0
    have e6 := hf.2 6
    have e12 := hf.2 12
    have e13 := hf.2 13
    have e14 := hf.2 14
    rw [g0] at e0; rw [g6] at e6; rw [g12] at e12; rw [g13] at e13; rw [g14] at e14
    refine hK a' w' (Step.belowOf hR2 hst (noImg_alloc (noImg_alloc fun r ⟨b, x, l, hb, _⟩ => by cases hb))) hd' ⟨hf.1.trans gn, mv_fun e0 (E.mono hst.le _ ea), mv_fun e6 (E.mono hst.le _ ea), mv_fun e12 (E.mono hst.le _ eb), ?_, ?_⟩
    · rw [E_i64_inv e13, hnb]
    · rw [E_i64_inv e14]; rfl
  have fin : ∀ {nb : Int} {bv : V}, codeG Tryz.prog (semS Tryz.prog W 1 noTb) 60 (.seq c1 (.seq c2 c3)) (enterF [mvOf 0 oca a, bv] 58) (st2 (meaC a) (meaC b)) proG = some (.normal, 58, [mvOf 0 oca a, mvOf 0 oca a, bv, i64 nb, i64 0]) →
      codeA Tryz.prog (semS Tryz.prog W 1 noTb) 60 (.seq c1 (.seq c2 c3)) (enterF [mvOf 0 oca a, bv] 58) (st2 (meaC a) (meaC b)) false = codeA Tryz.prog (semS Tryz.prog W 1 noTb) 60 (.seq c1 (.seq c2 c3)) (enterF [mvOf 0 oca a, bv] 58) (st2 (meaC a) (meaC b)) true →
      ∃ t' s', exec Tryz.prog (hookOf (semS Tryz.prog W 1 noTb)) 60 (.seq c1 (.seq c2 c3)) (enterF [mvOf 0 oca a, bv] 58) (st2 (meaC a) (meaC b)) = .ok .normal t' s' ∧ t'.n = 58 ∧ t'.get 0 = mvOf 0 oca a ∧ t'.get 6 = mvOf 0 oca a ∧ t'.get 12 = bv ∧ t'.get 13 = i64 nb ∧ t'.get 14 = i64 0 := by
    intro nb bv hv hA
    obtain ⟨x, t', s', hx, hg⟩ := codeG_ok hv hA
    simp only [proG, Prod.mk.injEq, List.cons.injEq] at hg
    obtain ⟨rfl, gn, g0, g6, g12, g13, g14, _⟩ := hg
    exact ⟨t', s', hx, gn, g0, g6, g12, g13, g14⟩
  cases ocb with
  | none =>
    obtain ⟨_, _, rfl⟩ := hb
    exact core (nb := 0) rfl (fin (pro_n W _ _ _) (proA_n W _ _ _))
  | some cb => exact core (nb := .ofNat b.length) rfl (fin (pro_s W _ _ _ _ _) (proA_s W _ _ _ _ _))
/-- What the loop ends with. -/
theorem epi_any (hmix : Tryz.prog.follows .mixedOrders = true) {w : World} {act : Act} {lms : Value} {ocl : Option Nat} {l : List Mea} (hl : MeaAt w lms ocl l) (hs : act.tmps.size = 58) (h6 : act.tmps.getD 6 undef = lms) (hd : act.defers = []) :
    c4.wp Tryz.prog (fun e a' w' => e = .ret ∧ Below w.heap.size w w' ∧ a'.defers = [] ∧ a'.tmps.getD 4 undef = lms ∧ a'.tmps.getD 5 undef = .bool (decide (l.length ≤ 8))) act w := by
  obtain ⟨ρ, hR, el⟩ := hl.rel (Below.refl _ _)
  have hch : ∃ d : Nat → V, ∀ i, E ρ (d i) (act.tmps.getD i undef) := ⟨fun i => Classical.choose (E.some ρ (act.tmps.getD i undef)), fun i => Classical.choose_spec (E.some ρ (act.tmps.getD i undef))⟩
  obtain ⟨d, hdd⟩ := hch
  have core : ∀ {c : Bool}, c = decide (l.length ≤ 8) → codeG Tryz.prog (semS Tryz.prog w 1 noTb) 60 c4 (frL (edL (mvOf 0 ocl l) d)) (roSt (meaC l)) epiG = some (.ret, 58, [mvOf 0 ocl l, .bool c]) →
      codeA Tryz.prog (semS Tryz.prog w 1 noTb) 60 c4 (frL (edL (mvOf 0 ocl l) d)) (roSt (meaC l)) false = codeA Tryz.prog (semS Tryz.prog w 1 noTb) 60 c4 (frL (edL (mvOf 0 ocl l) d)) (roSt (meaC l)) true →
      c4.wp Tryz.prog (fun e a' w' => e = .ret ∧ Below w.heap.size w w' ∧ a'.defers = [] ∧ a'.tmps.getD 4 undef = lms ∧ a'.tmps.getD 5 undef = .bool (decide (l.length ≤ 8))) act w := by
    intro c hc hv hA
    refine wp_mono (codeG_step hmix hv hA hR (edL_ok hs (by rw [h6]; exact el) hdd) hd) ?_
    rintro e a' w' ⟨x, t', s', ⟨rfl, hd', ρ', hst, hf⟩, hg⟩
    simp only [epiG, Prod.mk.injEq, List.cons.injEq] at hg
    obtain ⟨rfl, gn, g4, g5, _⟩ := hg
    have e4 := hf.2 4
    have e5 := hf.2 5
    rw [g4] at e4; rw [g5] at e5
    simp only [E] at e5
    exact ⟨rfl, Step.belowOf hR hst noImg_ro, hd', mv_fun e4 (E.mono hst.le _ el), by rw [e5, hc]⟩
  cases ocl with
  | none =>
    obtain ⟨_, _, rfl⟩ := hl
    exact core (c := true) rfl (epi_n w _ d) (epiA_n w _ d)
  | some cap =>
    refine core (c := !intLt 8 (.ofNat l.length)) ?_ (epi_s w _ _ _ d) (epiA_s w _ _ _ d)
    cases h : intLt 8 (.ofNat l.length) with
    | true => rw [intLt_iff] at h; simp only [Int.ofNat_eq_natCast] at h; symm; simp only [Bool.not_true, decide_eq_false_iff_not]; omega
    | false => rw [← Bool.not_eq_true, intLt_iff] at h; simp only [Int.ofNat_eq_natCast] at h; symm; simp only [Bool.not_false, decide_eq_true_eq]; omega
/-- What joinedMeasures comes to. -/
abbrev JoinedPost (W : World) (ams : Value) (a b : List Mea) (e : Ending) (w' : World) : Prop :=
  Below W.heap.size W w' ∧ ((joinM a a b = none ∧ e = .returned (.tuple #[.slice none 0 0, .bool false])) ∨
      ∃ l lms, joinM a a b = some l ∧ okL (-1) l ∧ ((b = [] ∧ lms = ams ∧ l = a) ∨ (b ≠ [] ∧ NewAt W.heap.size w' lms l)) ∧ e = .returned (.tuple #[lms, .bool (decide (l.length ≤ 8))]))
/-- joinedMeasures joins two lists. -/
theorem joined_calls (hmix : Tryz.prog.follows .mixedOrders = true) {W : World} {ams bms : Value} {oca ocb : Option Nat} {a b : List Mea}
    (ha : MeaAt W ams oca a) (hao : oca = none → a = []) (hra : Room oca a) (hoa : okL (-1) a) (hal : a.length ≤ 8) (hva : ∀ x ∈ a, okV x) (hb : MeaAt W bms ocb b) (hbl : b.length ≤ 8) (hvb : ∀ x ∈ b, okV x) :
    Calls Tryz.prog 169 #[ams, bms] W (JoinedPost W ams a b) := by
  refine calls_of_wp f169_get f169_body ?_
  rw [b169_eq, f169_tmps]
  have hloop : ∀ a' w', Below W.heap.size W w' → a'.defers = [] → Head a'.tmps ams ams bms b.length 0 → (Code.block 0 (.loop body169)).wp Tryz.prog (Exit.then (fun x y => c4.wp Tryz.prog (bodyPost Tryz.prog f169 (JoinedPost W ams a b)) x y) (bodyPost Tryz.prog f169 (JoinedPost W ams a b))) a' w' := by
    intro a1 w1 hb1 hd1 hh1
    refine wp_block (wp_loop_rounds (b.length + 1) ?_)
    refine rounds_any hmix (W := W) (J := joinM a a b) ha hao hal hva hb hbl hvb ?_ ?_ b 0 rfl (by omega) a ams oca w1 a1 hb1 (ha.below hb1) hao hra hoa (by omega) (.inl ⟨rfl, rfl, rfl⟩) rfl hh1 hd1
    · intro a2 w2 hb2 hd2 hJ h4 h5
      exact ⟨hd2, _, res45 f169_res a2.tmps w2, show JoinedPost W ams a b _ _ from ⟨hb2, .inl ⟨hJ, by rw [h4, h5]⟩⟩⟩
    · intro a2 w2 lms ocl l hb2 hd2 hs2 hJ hok hM hlo hroom hN h6
      unfold Exit.inBlock
      simp only [if_true]
      show c4.wp _ _ a2 w2
      refine wp_mono (epi_any hmix hM hs2 h6 hd2) ?_
      rintro e a3 w3 ⟨rfl, hb3, hd3, h4, h5⟩
      exact ⟨hd3, _, res45 f169_res a3.tmps w3, show JoinedPost W ams a b _ _ from ⟨below_tr hb2 hb3, .inr ⟨l, lms, hJ, hok, hN.imp id fun h => ⟨h.1, h.2.below hb3⟩, by rw [h4, h5]⟩⟩⟩
  refine wp_seq (wp_mono (pro_any (Q := fun _ _ _ => False) hmix ha hb hloop) ?_)
  intro e a1 w1 h1
  cases e with
  | normal =>
    refine wp_seq (wp_mono (show c2.wp _ _ a1 w1 from h1) ?_)
    intro e a2 w2 h2
    cases e with
    | normal =>
      refine wp_seq (wp_seq (wp_mono (show c3.wp _ _ a2 w2 from h2) ?_))
      intro e a3 w3 h3
      cases e with
      | normal => exact h3
      | _ => exact h3.elim
    | _ => exact h2.elim
  | _ => exact h1.elim
end Go.Proofs.YtilfiadkhohfiaaGreatDoor
/- Layer 2: joins of finds, in runs. -/
set_option linter.unusedVariables false
namespace Go.Proofs.YtilfiadkhohfiaaGreatDoor
set_option linter.unusedSimpArgs false
set_option linter.unusedVariables false
open Go Go.RowKit Go.Clo
set_option maxRecDepth 100000
theorem cl_1 (W0 : World) (cap : Nat) (x1 : Mea) : valG Tryz.prog (semS Tryz.prog W0 1 noTb) 60 76 [.sl 0 0 1 (.exact cap)] (roSt (meaC [x1])) rowOf = some (.ok (meaC [x1])) := by kernel_rfl
theorem clA_1 (W0 : World) (cap : Nat) (x1 : Mea) : askK Tryz.prog (semS Tryz.prog W0 1 noTb) 60 76 [.sl 0 0 1 (.exact cap)] (roSt (meaC [x1])) false = askK Tryz.prog (semS Tryz.prog W0 1 noTb) 60 76 [.sl 0 0 1 (.exact cap)] (roSt (meaC [x1])) true := by kernel_rfl
theorem cl_2 (W0 : World) (cap : Nat) (x1 x2 : Mea) : valG Tryz.prog (semS Tryz.prog W0 1 noTb) 60 76 [.sl 0 0 2 (.exact cap)] (roSt (meaC [x1, x2])) rowOf = some (.ok (meaC [x1, x2])) := by kernel_rfl
theorem clA_2 (W0 : World) (cap : Nat) (x1 x2 : Mea) : askK Tryz.prog (semS Tryz.prog W0 1 noTb) 60 76 [.sl 0 0 2 (.exact cap)] (roSt (meaC [x1, x2])) false = askK Tryz.prog (semS Tryz.prog W0 1 noTb) 60 76 [.sl 0 0 2 (.exact cap)] (roSt (meaC [x1, x2])) true := by kernel_rfl
theorem cl_3 (W0 : World) (cap : Nat) (x1 x2 x3 : Mea) : valG Tryz.prog (semS Tryz.prog W0 1 noTb) 60 76 [.sl 0 0 3 (.exact cap)] (roSt (meaC [x1, x2, x3])) rowOf = some (.ok (meaC [x1, x2, x3])) := by kernel_rfl
theorem clA_3 (W0 : World) (cap : Nat) (x1 x2 x3 : Mea) : askK Tryz.prog (semS Tryz.prog W0 1 noTb) 60 76 [.sl 0 0 3 (.exact cap)] (roSt (meaC [x1, x2, x3])) false = askK Tryz.prog (semS Tryz.prog W0 1 noTb) 60 76 [.sl 0 0 3 (.exact cap)] (roSt (meaC [x1, x2, x3])) true := by kernel_rfl
theorem cl_4 (W0 : World) (cap : Nat) (x1 x2 x3 x4 : Mea) : valG Tryz.prog (semS Tryz.prog W0 1 noTb) 60 76 [.sl 0 0 4 (.exact cap)] (roSt (meaC [x1, x2, x3, x4])) rowOf = some (.ok (meaC [x1, x2, x3, x4])) := by kernel_rfl
theorem clA_4 (W0 : World) (cap : Nat) (x1 x2 x3 x4 : Mea) : askK Tryz.prog (semS Tryz.prog W0 1 noTb) 60 76 [.sl 0 0 4 (.exact cap)] (roSt (meaC [x1, x2, x3, x4])) false = askK Tryz.prog (semS Tryz.prog W0 1 noTb) 60 76 [.sl 0 0 4 (.exact cap)] (roSt (meaC [x1, x2, x3, x4])) true := by kernel_rfl
theorem cl_5 (W0 : World) (cap : Nat) (x1 x2 x3 x4 x5 : Mea) : valG Tryz.prog (semS Tryz.prog W0 1 noTb) 60 76 [.sl 0 0 5 (.exact cap)] (roSt (meaC [x1, x2, x3, x4, x5])) rowOf = some (.ok (meaC [x1, x2, x3, x4, x5])) := by kernel_rfl
theorem clA_5 (W0 : World) (cap : Nat) (x1 x2 x3 x4 x5 : Mea) : askK Tryz.prog (semS Tryz.prog W0 1 noTb) 60 76 [.sl 0 0 5 (.exact cap)] (roSt (meaC [x1, x2, x3, x4, x5])) false = askK Tryz.prog (semS Tryz.prog W0 1 noTb) 60 76 [.sl 0 0 5 (.exact cap)] (roSt (meaC [x1, x2, x3, x4, x5])) true := by kernel_rfl
theorem cl_6 (W0 : World) (cap : Nat) (x1 x2 x3 x4 x5 x6 : Mea) : valG Tryz.prog (semS Tryz.prog W0 1 noTb) 60 76 [.sl 0 0 6 (.exact cap)] (roSt (meaC [x1, x2, x3, x4, x5, x6])) rowOf = some (.ok (meaC [x1, x2, x3, x4, x5, x6])) := by kernel_rfl
theorem clA_6 (W0 : World) (cap : Nat) (x1 x2 x3 x4 x5 x6 : Mea) : askK Tryz.prog (semS Tryz.prog W0 1 noTb) 60 76 [.sl 0 0 6 (.exact cap)] (roSt (meaC [x1, x2, x3, x4, x5, x6])) false = askK Tryz.prog (semS Tryz.prog W0 1 noTb) 60 76 [.sl 0 0 6 (.exact cap)] (roSt (meaC [x1, x2, x3, x4, x5, x6])) true := by kernel_rfl
theorem cl_7 (W0 : World) (cap : Nat) (x1 x2 x3 x4 x5 x6 x7 : Mea) : valG Tryz.prog (semS Tryz.prog W0 1 noTb) 60 76 [.sl 0 0 7 (.exact cap)] (roSt (meaC [x1, x2, x3, x4, x5, x6, x7])) rowOf = some (.ok (meaC [x1, x2, x3, x4, x5, x6, x7])) := by kernel_rfl
theorem clA_7 (W0 : World) (cap : Nat) (x1 x2 x3 x4 x5 x6 x7 : Mea) : askK Tryz.prog (semS Tryz.prog W0 1 noTb) 60 76 [.sl 0 0 7 (.exact cap)] (roSt (meaC [x1, x2, x3, x4, x5, x6, x7])) false = askK Tryz.prog (semS Tryz.prog W0 1 noTb) 60 76 [.sl 0 0 7 (.exact cap)] (roSt (meaC [x1, x2, x3, x4, x5, x6, x7])) true := by kernel_rfl
theorem cl_8 (W0 : World) (cap : Nat) (x1 x2 x3 x4 x5 x6 x7 x8 : Mea) : valG Tryz.prog (semS Tryz.prog W0 1 noTb) 60 76 [.sl 0 0 8 (.exact cap)] (roSt (meaC [x1, x2, x3, x4, x5, x6, x7, x8])) rowOf = some (.ok (meaC [x1, x2, x3, x4, x5, x6, x7, x8])) := by kernel_rfl
theorem clA_8 (W0 : World) (cap : Nat) (x1 x2 x3 x4 x5 x6 x7 x8 : Mea) : askK Tryz.prog (semS Tryz.prog W0 1 noTb) 60 76 [.sl 0 0 8 (.exact cap)] (roSt (meaC [x1, x2, x3, x4, x5, x6, x7, x8])) false = askK Tryz.prog (semS Tryz.prog W0 1 noTb) 60 76 [.sl 0 0 8 (.exact cap)] (roSt (meaC [x1, x2, x3, x4, x5, x6, x7, x8])) true := by kernel_rfl
/-- Clone copies a list. -/
theorem clone_any (hmix : Tryz.prog.follows .mixedOrders = true) {W : World} {ms : Value} {cap : Nat} {l : List Mea} (hM : MeaAt W ms (some cap) l) (hl : l ≠ []) (hn : l.length ≤ 8) :
    Calls Tryz.prog 76 #[ms] W fun e w' => ∃ u, e = .returned u ∧ NewAt W.heap.size w' u l ∧ Below W.heap.size W w' := by
  have core : ∀ {l : List Mea}, MeaAt W ms (some cap) l → l ≠ [] → valG Tryz.prog (semS Tryz.prog W 1 noTb) 60 76 [.sl 0 0 l.length (.exact cap)] (roSt (meaC l)) rowOf = some (.ok (meaC l)) →
      askK Tryz.prog (semS Tryz.prog W 1 noTb) 60 76 [.sl 0 0 l.length (.exact cap)] (roSt (meaC l)) false = askK Tryz.prog (semS Tryz.prog W 1 noTb) 60 76 [.sl 0 0 l.length (.exact cap)] (roSt (meaC l)) true →
      Calls Tryz.prog 76 #[ms] W fun e w' => ∃ u, e = .returned u ∧ NewAt W.heap.size w' u l ∧ Below W.heap.size W w' := by
    intro l hM hl hv ha
    obtain ⟨ρ, hR, he⟩ := hM.rel (Below.refl _ _)
    refine (valG_step hmix hv ha hR (us := [ms]) (EL.cons he EL.nil)).mono ?_
    rintro e w' ⟨ρ', v, s', u, rfl, hst, hE, hg⟩
    exact ⟨u, rfl, row_new hst.rel hl hE hg, Step.belowOf hR hst noImg_ro⟩
  match l, hM, hl, hn with
  | [], hM, hl, hn => exact absurd rfl hl
  | [x1], hM, hl, hn => exact core hM hl (cl_1 W cap x1) (clA_1 W cap x1)
  | [x1, x2], hM, hl, hn => exact core hM hl (cl_2 W cap x1 x2) (clA_2 W cap x1 x2)
  | [x1, x2, x3], hM, hl, hn => exact core hM hl (cl_3 W cap x1 x2 x3) (clA_3 W cap x1 x2 x3)
  | [x1, x2, x3, x4], hM, hl, hn => exact core hM hl (cl_4 W cap x1 x2 x3 x4) (clA_4 W cap x1 x2 x3 x4)
  | [x1, x2, x3, x4, x5], hM, hl, hn => exact core hM hl (cl_5 W cap x1 x2 x3 x4 x5) (clA_5 W cap x1 x2 x3 x4 x5)
  | [x1, x2, x3, x4, x5, x6], hM, hl, hn => exact core hM hl (cl_6 W cap x1 x2 x3 x4 x5 x6) (clA_6 W cap x1 x2 x3 x4 x5 x6)
  | [x1, x2, x3, x4, x5, x6, x7], hM, hl, hn => exact core hM hl (cl_7 W cap x1 x2 x3 x4 x5 x6 x7) (clA_7 W cap x1 x2 x3 x4 x5 x6 x7)
  | [x1, x2, x3, x4, x5, x6, x7, x8], hM, hl, hn => exact core hM hl (cl_8 W cap x1 x2 x3 x4 x5 x6 x7 x8) (clA_8 W cap x1 x2 x3 x4 x5 x6 x7 x8)
  | x1 :: x2 :: x3 :: x4 :: x5 :: x6 :: x7 :: x8 :: x9 :: r, hM, hl, hn => simp only [List.length_cons] at hn; omega
end Go.Proofs.YtilfiadkhohfiaaGreatDoor
/- Layer 2: joins of finds, in runs. -/
set_option linter.unusedVariables false
namespace Go.Proofs.YtilfiadkhohfiaaGreatDoor
set_option linter.unusedSimpArgs false
set_option linter.unusedVariables false
open Go Go.RowKit Go.Clo
noncomputable section
def fin1 (no el sd : Int) (a : Nat) (ms : V) (lo hi sex wear layer square : Int) : V := .agg (finL no el sd a 0 0 0 ms lo hi sex wear layer square)
/-- What is seen of the memory: the two finds' lists; by Clone the list that it is handed. -/
def vfA (f : FuncId) (s : St) : List (Option Blk) := [s.get 0, s.get 1]
def vfJ (n1 : Nat) (f : FuncId) (s : St) : List (Option Blk) := cond (Nat.beq f 76) [s.get n1] [s.get 0, s.get 1]
abbrev Tb := FuncId → Option (List V → Nat → V × Option Blk)
def tbJ (sx : Int) (r169 : List V → Nat → V × Option Blk) (r76 : Option (List V → Nat → V × Option Blk)) : Tb := fun f =>
  cond (Nat.beq f 122) (some fun _ _ => (i64 0, none)) (cond (Nat.beq f 173) (some fun _ _ => (i64 sx, none)) (cond (Nat.beq f 169) (some r169) (cond (Nat.beq f 76) r76 none)))
def rowB (l : List Mea) : Option Blk := some (.row (meaC l) 0 3 false [])
def slN (n : Nat) (l : List Mea) : V := .sl n 0 l.length (.open_ 0)
def zFind : V := .agg (finL 0 0 0 0 0 0 0 .nils 0 0 0 0 0 0)
def noV (e : Int) : Option V := some (.tup [zFind, i64 e])
def setV4 (a : Nat) : List V := [w64 a, w64 0, w64 0, w64 0]
def bleT (a a' : Nat) : Bool := Nat.ble a 18446744073709551615 && Nat.ble a' 18446744073709551615
def loA (lo lo' : Int) : Int := cond (intLt lo lo') lo' lo
def hiA (hi hi' : Int) : Int := cond (intLt hi' hi) hi' hi
def meetO (a a' : Nat) (k0 k : Option V) : Option V := cond (bleT a a') (cond (rngV (setV4 (Nat.land a a')) (setV4 0)) (cond (!eqVs (setV4 (Nat.land a a')) (setV4 0)) k0 k) none) none
/-- What Joined comes to, of valid finds. -/
def jT (g122 g169 g173 g76 : Bool) (ag : Bool) (mv : V) (sx : Int) (no el sd : Int) (a : Nat) (lo hi sex wear layer square : Int) (no' el' sd' : Int) (a' : Nat) (lo' hi' sex' wear' layer' square' : Int) (num : Int) : Option V :=
  let fin : Int → Option V := fun s => some (.tup [.agg (finL num el s (Nat.lor a a') 0 0 0 mv (loA lo lo') (hiA hi hi') sx (cond (intLt wear wear') wear' wear) layer square), i64 0])
  let last : Option V := cond (intLt (hiA hi hi') (loA lo lo')) (noV 22) (cond (!ag) (noV 22) (cond (bleT a a') (cond g173 (cond (intBeq sd 3) (cond g76 (fin sd') none) (cond g76 (fin sd) none)) none) none))
  cond g122 (cond (!intLt num 0) (cond (!!intLt 4095 num) (noV 1) (cond g169 (cond (!intBeq el el') (noV 22)
    (cond (intBeq sd sd') (meetO a a' (noV 22) last) (cond (intBeq sd 3) (meetO a a' (noV 22) last) (cond (!intBeq sd' 3) (noV 22) (meetO a a' (noV 22) last))))) none)) (noV 1)) none
end
end Go.Proofs.YtilfiadkhohfiaaGreatDoor
