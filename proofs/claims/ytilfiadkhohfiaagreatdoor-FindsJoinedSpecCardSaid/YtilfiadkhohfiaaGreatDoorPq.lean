/- Layer 2: joins of finds. -/
import Derived.Test.YtilfiadkhohfiaaGreatDoorPh
import Derived.Test.YtilfiadkhohfiaaGreatDoorPd
import Derived.KernelRfl
/- The search for a place in a list of measurements. -/
namespace Go.Proofs.YtilfiadkhohfiaaGreatDoor
set_option linter.unusedSimpArgs false
set_option linter.unusedVariables false
open Go Go.RowKit Go.Clo
noncomputable section
/-- The cells of the row of a result, which has room for them. -/
def rowOf (v : V) (s : St) : M (List V) := match v with
  | .sl b off len cap => match cap with
    | .open_ k => Clo.ask (Nat.beq off (k * 3)) "room" (match s.get b with | some (.row c _ sz _ _) => Clo.ask (Nat.beq sz 3) "room" (cut c off (len * 3)) | _ => .err "no row")
    | .exact k => match s.get b with | some (.cells c _) => Clo.ask (Nat.ble len k && Nat.ble (off + k * 3) (lenN c)) "room" (cut c off (len * 3)) | _ => .err "no row"
  | _ => .err "no row"
def noTb (_ : FuncId) : Option (List V → List (Option Blk) → V) := none
def kAt (l : List Mea) (i : Nat) : Int := (l.getD i (0, 0, 0)).1
def cmpLt (l : List Mea) (k : Int) (i : Nat) : Bool := intLt (fit .i64 (Int.sub (kAt l i) k)) 0
def cmpEq (l : List Mea) (k : Int) (i : Nat) : Bool := intBeq (fit .i64 (Int.sub (kAt l i) k)) 0
/-- The search for a place. -/
def bsO {γ : Type} (l : List Mea) (k : Int) (c : Nat → Option γ) : Nat → Nat → Nat → Option γ
  | 0, lo, _ => c lo
  | f + 1, lo, hi => cond (Nat.blt lo hi) (cond (cmpLt l k ((lo + hi) / 2)) (bsO l k c f ((lo + hi) / 2 + 1) hi) (bsO l k c f lo ((lo + hi) / 2))) (c lo)
def putO (l : List Mea) (m : Mea) (i : Nat) : Option (M (List V)) :=
  cond (Nat.blt i l.length) (cond (cmpEq l m.1 i) (some (.ok (meaC (l.take i ++ m :: l.drop (i + 1))))) (some (.ok (meaC (l.take i ++ m :: l.drop i))))) (some (.ok (meaC (l ++ [m]))))
def wmO (l : List Mea) (m : Mea) : Option (M (List V)) := bsO l m.1 (putO l m) (l.length + 1) 0 l.length
end
/-- The list with a measurement in its place. -/
def insM (m : Mea) : List Mea → List Mea
  | [] => [m]
  | x :: l => if x.1 < m.1 then x :: insM m l else if x.1 = m.1 then m :: l else m :: x :: l
theorem fit_i64 {z : Int} (h : -9223372036854775808 ≤ z ∧ z ≤ 9223372036854775807) : fit .i64 z = z := by
  cases z with
  | ofNat m =>
    have hm : Nat.ble m (top .i64) = true := by rw [Nat.ble_eq]; show m ≤ 9223372036854775807; have h2 := h.2; have : (m : Int) ≤ 9223372036854775807 := h2; omega
    show fitN .i64 m = _
    unfold fitN; rw [hm]
  | negSucc m =>
    have hm : Nat.ble m (top .i64) = true := by rw [Nat.ble_eq]; show m ≤ 9223372036854775807; have h1 := h.1; rw [Int.negSucc_eq] at h1; omega
    show (match Nat.ble m (top .i64) with | true => Int.negSucc m | false => IntKind.wrap .i64 (Int.negSucc m)) = _
    rw [hm]
/-- Kinds that grow, all of them kinds. -/
def Kinds (l : List Mea) : Prop := (∀ (i : Nat) (x : Mea), l[i]? = some x → 0 ≤ x.1 ∧ x.1 ≤ 15) ∧ ∀ (i j : Nat) (x y : Mea), i < j → l[i]? = some x → l[j]? = some y → x.1 < y.1
theorem kAt_eq {l : List Mea} {i : Nat} {x : Mea} (h : l[i]? = some x) : kAt l i = x.1 := by unfold kAt; rw [List.getD_eq_getElem?_getD, h]; rfl
theorem cmpLt_iff {l : List Mea} {k : Int} {i : Nat} {x : Mea} (hl : Kinds l) (hk : 0 ≤ k ∧ k ≤ 15) (h : l[i]? = some x) : cmpLt l k i = true ↔ x.1 < k := by
  have hx := hl.1 i x h
  unfold cmpLt
  rw [kAt_eq h, show Int.sub x.1 k = x.1 - k from rfl, fit_i64 (by omega), intLt_iff]; omega
theorem cmpEq_iff {l : List Mea} {k : Int} {i : Nat} {x : Mea} (hl : Kinds l) (hk : 0 ≤ k ∧ k ≤ 15) (h : l[i]? = some x) : cmpEq l k i = true ↔ x.1 = k := by
  have hx := hl.1 i x h
  unfold cmpEq
  rw [kAt_eq h, show Int.sub x.1 k = x.1 - k from rfl, fit_i64 (by omega), intBeq_iff]; omega
/-- The place that the search finds. -/
theorem bsO_eq {γ : Type} {l : List Mea} {k : Int} {c : Nat → Option γ} (hl : Kinds l) (hk : 0 ≤ k ∧ k ≤ 15) {p : Nat} (hp : p ≤ l.length) (h1 : ∀ (i : Nat) (x : Mea), i < p → l[i]? = some x → x.1 < k) (h2 : ∀ (i : Nat) (x : Mea), p ≤ i → l[i]? = some x → k ≤ x.1) :
    ∀ (f lo hi : Nat), lo ≤ p → p ≤ hi → hi ≤ l.length → hi < f + lo → bsO l k c f lo hi = c p
  | 0, lo, hi, ha, hb, _, hf => by omega
  | f + 1, lo, hi, ha, hb, hc, hf => by
    unfold bsO
    by_cases h : lo < hi
    · have e : Nat.blt lo hi = true := by rw [Nat.blt_eq]; exact h
      rw [e, cond_true]
      have hm : (lo + hi) / 2 < l.length := by omega
      obtain ⟨x, hx⟩ : ∃ x, l[(lo + hi) / 2]? = some x := ⟨_, List.getElem?_eq_getElem hm⟩
      cases hcmp : cmpLt l k ((lo + hi) / 2) with
      | true =>
        rw [cond_true]
        have hlt := (cmpLt_iff hl hk hx).1 hcmp
        refine bsO_eq hl hk hp h1 h2 f _ _ ?_ hb hc (by omega)
        by_cases hq : p ≤ (lo + hi) / 2
        · have := h2 _ x hq hx; omega
        · omega
      | false =>
        rw [cond_false]
        have hge : ¬ x.1 < k := fun hh => by rw [(cmpLt_iff hl hk hx).2 hh] at hcmp; cases hcmp
        refine bsO_eq hl hk hp h1 h2 f _ _ ha ?_ (by omega) (by omega)
        by_cases hq : (lo + hi) / 2 < p
        · have := h1 _ x hq hx; omega
        · omega
    · have e : Nat.blt lo hi = false := by rw [← Bool.not_eq_true, Nat.blt_eq]; exact h
      rw [e, cond_false]
      congr 1
      omega
/-- The place of a kind. -/
def posOf (k : Int) : List Mea → Nat
  | [] => 0
  | x :: l => if x.1 < k then posOf k l + 1 else 0
theorem posOf_cons (k : Int) (x : Mea) (l : List Mea) : posOf k (x :: l) = if x.1 < k then posOf k l + 1 else 0 := rfl
theorem insM_cons (m x : Mea) (l : List Mea) : insM m (x :: l) = if x.1 < m.1 then x :: insM m l else if x.1 = m.1 then m :: l else m :: x :: l := rfl
theorem Kinds.tail {x : Mea} {l : List Mea} (h : Kinds (x :: l)) : Kinds l :=
  ⟨fun i y hy => h.1 (i + 1) y hy, fun i j y z hij hy hz => h.2 (i + 1) (j + 1) y z (by omega) hy hz⟩
theorem posOf_le (k : Int) : ∀ l : List Mea, posOf k l ≤ l.length
  | [] => Nat.le_refl _
  | x :: l => by rw [posOf_cons]; have := posOf_le k l; split <;> simp <;> omega
theorem posOf_lt {k : Int} : ∀ {l : List Mea} (i : Nat) (x : Mea), i < posOf k l → l[i]? = some x → x.1 < k
  | [], i, x, h, hx => by simp at hx
  | y :: l, i, x, h, hx => by
    rw [posOf_cons] at h
    split at h
    · cases i with
      | zero => have : y = x := by simpa using hx
                subst this; assumption
      | succ i => exact posOf_lt (l := l) i x (by omega) (by simpa using hx)
    · omega
theorem posOf_ge {k : Int} : ∀ {l : List Mea}, Kinds l → ∀ (i : Nat) (x : Mea), posOf k l ≤ i → l[i]? = some x → k ≤ x.1
  | [], _, i, x, h, hx => by simp at hx
  | y :: l, hl, i, x, h, hx => by
    rw [posOf_cons] at h
    split at h
    · cases i with
      | zero => omega
      | succ i => exact posOf_ge (l := l) hl.tail i x (by omega) (by simpa using hx)
    · rename_i hy
      cases i with
      | zero => have : y = x := by simpa using hx
                subst this; omega
      | succ i => have := hl.2 0 (i + 1) y x (by omega) rfl hx; omega
theorem putO_pos {l : List Mea} {m : Mea} (hl : Kinds l) (hk : 0 ≤ m.1 ∧ m.1 ≤ 15) : putO l m (posOf m.1 l) = some (.ok (meaC (insM m l))) := by
  unfold putO
  have key : ∀ l : List Mea, Kinds l → (posOf m.1 l = l.length ∧ insM m l = l ++ [m] ∨ ∃ x, l[posOf m.1 l]? = some x ∧ (x.1 = m.1 ∧ insM m l = l.take (posOf m.1 l) ++ m :: l.drop (posOf m.1 l + 1) ∨ x.1 ≠ m.1 ∧ insM m l = l.take (posOf m.1 l) ++ m :: l.drop (posOf m.1 l))) := by
    intro l
    induction l with
    | nil => intro _; exact .inl ⟨rfl, rfl⟩
    | cons y l ih =>
      intro hl
      rw [posOf_cons, insM_cons]
      by_cases hy : y.1 < m.1
      · rw [if_pos hy, if_pos hy]
        rcases ih hl.tail with ⟨e1, e2⟩ | ⟨x, hx, h⟩
        · exact .inl ⟨by simp [e1], by rw [e2]; rfl⟩
        · refine .inr ⟨x, by simpa using hx, ?_⟩
          rcases h with ⟨e1, e2⟩ | ⟨e1, e2⟩
          · exact .inl ⟨e1, by rw [e2]; rfl⟩
          · exact .inr ⟨e1, by rw [e2]; rfl⟩
      · rw [if_neg hy, if_neg hy]
        by_cases he : y.1 = m.1
        · rw [if_pos he]; exact .inr ⟨y, rfl, .inl ⟨he, rfl⟩⟩
        · rw [if_neg he]; exact .inr ⟨y, rfl, .inr ⟨he, rfl⟩⟩
  rcases key l hl with ⟨e1, e2⟩ | ⟨x, hx, h⟩
  · have : Nat.blt (posOf m.1 l) l.length = false := by rw [← Bool.not_eq_true, Nat.blt_eq]; omega
    rw [this, cond_false, e2]
  · have hlt := (List.getElem?_eq_some_iff.1 hx).1
    have : Nat.blt (posOf m.1 l) l.length = true := by rw [Nat.blt_eq]; exact hlt
    rw [this, cond_true]
    rcases h with ⟨e1, e2⟩ | ⟨e1, e2⟩
    · rw [(cmpEq_iff hl hk hx).2 e1, cond_true, e2]
    · have : cmpEq l m.1 (posOf m.1 l) = false := by rw [← Bool.not_eq_true, cmpEq_iff hl hk hx]; exact e1
      rw [this, cond_false, e2]
theorem wmO_eq {l : List Mea} {m : Mea} (hl : Kinds l) (hk : 0 ≤ m.1 ∧ m.1 ≤ 15) : wmO l m = some (.ok (meaC (insM m l))) := by
  unfold wmO
  rw [bsO_eq hl hk (posOf_le m.1 l) (fun i x h hx => posOf_lt i x h hx) (fun i x h hx => posOf_ge hl i x h hx) _ _ _ (Nat.zero_le _) (posOf_le m.1 l) (Nat.le_refl _) (by omega)]
  exact putO_pos hl hk
end Go.Proofs.YtilfiadkhohfiaaGreatDoor
/- Runs of withMeasure. -/
set_option linter.unusedVariables false
namespace Go.Proofs.YtilfiadkhohfiaaGreatDoor
set_option linter.unusedSimpArgs false
set_option linter.unusedVariables false
open Go Go.RowKit Go.Clo
set_option maxRecDepth 100000
theorem wmn_0 (W0 : World) (m : Mea)   : valG Tryz.prog (semS Tryz.prog W0 1 noTb) 60 214 [.nils, .agg [i64 m.1, i64 m.2.1, i64 m.2.2]] (roSt (meaC [])) rowOf = wmO [] m := by kernel_rfl
theorem wmAn_0 (W0 : World) (m : Mea)   : askK Tryz.prog (semS Tryz.prog W0 1 noTb) 60 214 [.nils, .agg [i64 m.1, i64 m.2.1, i64 m.2.2]] (roSt (meaC [])) false = askK Tryz.prog (semS Tryz.prog W0 1 noTb) 60 214 [.nils, .agg [i64 m.1, i64 m.2.1, i64 m.2.2]] (roSt (meaC [])) true := by kernel_rfl
theorem wme_0 (W0 : World) (m : Mea)   : valG Tryz.prog (semS Tryz.prog W0 1 noTb) 60 214 [(.sl 0 0 0 (.exact 0)), .agg [i64 m.1, i64 m.2.1, i64 m.2.2]] (roSt (meaC [])) rowOf = wmO [] m := by kernel_rfl
theorem wmAe_0 (W0 : World) (m : Mea)   : askK Tryz.prog (semS Tryz.prog W0 1 noTb) 60 214 [(.sl 0 0 0 (.exact 0)), .agg [i64 m.1, i64 m.2.1, i64 m.2.2]] (roSt (meaC [])) false = askK Tryz.prog (semS Tryz.prog W0 1 noTb) 60 214 [(.sl 0 0 0 (.exact 0)), .agg [i64 m.1, i64 m.2.1, i64 m.2.2]] (roSt (meaC [])) true := by kernel_rfl
theorem wmm_0 (W0 : World) (m : Mea)  (c : Nat) : valG Tryz.prog (semS Tryz.prog W0 1 noTb) 60 214 [(.sl 0 0 0 (.exact (c + 1))), .agg [i64 m.1, i64 m.2.1, i64 m.2.2]] (roSt (meaC [])) rowOf = wmO [] m := by kernel_rfl
theorem wmAm_0 (W0 : World) (m : Mea)  (c : Nat) : askK Tryz.prog (semS Tryz.prog W0 1 noTb) 60 214 [(.sl 0 0 0 (.exact (c + 1))), .agg [i64 m.1, i64 m.2.1, i64 m.2.2]] (roSt (meaC [])) false = askK Tryz.prog (semS Tryz.prog W0 1 noTb) 60 214 [(.sl 0 0 0 (.exact (c + 1))), .agg [i64 m.1, i64 m.2.1, i64 m.2.2]] (roSt (meaC [])) true := by kernel_rfl
theorem wme_1 (W0 : World) (m : Mea) (x1 : Mea)  : valG Tryz.prog (semS Tryz.prog W0 1 noTb) 60 214 [(.sl 0 0 1 (.exact 1)), .agg [i64 m.1, i64 m.2.1, i64 m.2.2]] (roSt (meaC [x1])) rowOf = wmO [x1] m := by kernel_rfl
theorem wmAe_1 (W0 : World) (m : Mea) (x1 : Mea)  : askK Tryz.prog (semS Tryz.prog W0 1 noTb) 60 214 [(.sl 0 0 1 (.exact 1)), .agg [i64 m.1, i64 m.2.1, i64 m.2.2]] (roSt (meaC [x1])) false = askK Tryz.prog (semS Tryz.prog W0 1 noTb) 60 214 [(.sl 0 0 1 (.exact 1)), .agg [i64 m.1, i64 m.2.1, i64 m.2.2]] (roSt (meaC [x1])) true := by kernel_rfl
theorem wmm_1 (W0 : World) (m : Mea) (x1 : Mea) (c : Nat) : valG Tryz.prog (semS Tryz.prog W0 1 noTb) 60 214 [(.sl 0 0 1 (.exact (c + 2))), .agg [i64 m.1, i64 m.2.1, i64 m.2.2]] (roSt (meaC [x1])) rowOf = wmO [x1] m := by kernel_rfl
theorem wmAm_1 (W0 : World) (m : Mea) (x1 : Mea) (c : Nat) : askK Tryz.prog (semS Tryz.prog W0 1 noTb) 60 214 [(.sl 0 0 1 (.exact (c + 2))), .agg [i64 m.1, i64 m.2.1, i64 m.2.2]] (roSt (meaC [x1])) false = askK Tryz.prog (semS Tryz.prog W0 1 noTb) 60 214 [(.sl 0 0 1 (.exact (c + 2))), .agg [i64 m.1, i64 m.2.1, i64 m.2.2]] (roSt (meaC [x1])) true := by kernel_rfl
theorem wme_2 (W0 : World) (m : Mea) (x1 x2 : Mea)  : valG Tryz.prog (semS Tryz.prog W0 1 noTb) 60 214 [(.sl 0 0 2 (.exact 2)), .agg [i64 m.1, i64 m.2.1, i64 m.2.2]] (roSt (meaC [x1, x2])) rowOf = wmO [x1, x2] m := by kernel_rfl
theorem wmAe_2 (W0 : World) (m : Mea) (x1 x2 : Mea)  : askK Tryz.prog (semS Tryz.prog W0 1 noTb) 60 214 [(.sl 0 0 2 (.exact 2)), .agg [i64 m.1, i64 m.2.1, i64 m.2.2]] (roSt (meaC [x1, x2])) false = askK Tryz.prog (semS Tryz.prog W0 1 noTb) 60 214 [(.sl 0 0 2 (.exact 2)), .agg [i64 m.1, i64 m.2.1, i64 m.2.2]] (roSt (meaC [x1, x2])) true := by kernel_rfl
theorem wmm_2 (W0 : World) (m : Mea) (x1 x2 : Mea) (c : Nat) : valG Tryz.prog (semS Tryz.prog W0 1 noTb) 60 214 [(.sl 0 0 2 (.exact (c + 3))), .agg [i64 m.1, i64 m.2.1, i64 m.2.2]] (roSt (meaC [x1, x2])) rowOf = wmO [x1, x2] m := by kernel_rfl
theorem wmAm_2 (W0 : World) (m : Mea) (x1 x2 : Mea) (c : Nat) : askK Tryz.prog (semS Tryz.prog W0 1 noTb) 60 214 [(.sl 0 0 2 (.exact (c + 3))), .agg [i64 m.1, i64 m.2.1, i64 m.2.2]] (roSt (meaC [x1, x2])) false = askK Tryz.prog (semS Tryz.prog W0 1 noTb) 60 214 [(.sl 0 0 2 (.exact (c + 3))), .agg [i64 m.1, i64 m.2.1, i64 m.2.2]] (roSt (meaC [x1, x2])) true := by kernel_rfl
theorem wme_3 (W0 : World) (m : Mea) (x1 x2 x3 : Mea)  : valG Tryz.prog (semS Tryz.prog W0 1 noTb) 60 214 [(.sl 0 0 3 (.exact 3)), .agg [i64 m.1, i64 m.2.1, i64 m.2.2]] (roSt (meaC [x1, x2, x3])) rowOf = wmO [x1, x2, x3] m := by kernel_rfl
theorem wmAe_3 (W0 : World) (m : Mea) (x1 x2 x3 : Mea)  : askK Tryz.prog (semS Tryz.prog W0 1 noTb) 60 214 [(.sl 0 0 3 (.exact 3)), .agg [i64 m.1, i64 m.2.1, i64 m.2.2]] (roSt (meaC [x1, x2, x3])) false = askK Tryz.prog (semS Tryz.prog W0 1 noTb) 60 214 [(.sl 0 0 3 (.exact 3)), .agg [i64 m.1, i64 m.2.1, i64 m.2.2]] (roSt (meaC [x1, x2, x3])) true := by kernel_rfl
theorem wmm_3 (W0 : World) (m : Mea) (x1 x2 x3 : Mea) (c : Nat) : valG Tryz.prog (semS Tryz.prog W0 1 noTb) 60 214 [(.sl 0 0 3 (.exact (c + 4))), .agg [i64 m.1, i64 m.2.1, i64 m.2.2]] (roSt (meaC [x1, x2, x3])) rowOf = wmO [x1, x2, x3] m := by kernel_rfl
theorem wmAm_3 (W0 : World) (m : Mea) (x1 x2 x3 : Mea) (c : Nat) : askK Tryz.prog (semS Tryz.prog W0 1 noTb) 60 214 [(.sl 0 0 3 (.exact (c + 4))), .agg [i64 m.1, i64 m.2.1, i64 m.2.2]] (roSt (meaC [x1, x2, x3])) false = askK Tryz.prog (semS Tryz.prog W0 1 noTb) 60 214 [(.sl 0 0 3 (.exact (c + 4))), .agg [i64 m.1, i64 m.2.1, i64 m.2.2]] (roSt (meaC [x1, x2, x3])) true := by kernel_rfl
theorem wme_4 (W0 : World) (m : Mea) (x1 x2 x3 x4 : Mea)  : valG Tryz.prog (semS Tryz.prog W0 1 noTb) 60 214 [(.sl 0 0 4 (.exact 4)), .agg [i64 m.1, i64 m.2.1, i64 m.2.2]] (roSt (meaC [x1, x2, x3, x4])) rowOf = wmO [x1, x2, x3, x4] m := by kernel_rfl
theorem wmAe_4 (W0 : World) (m : Mea) (x1 x2 x3 x4 : Mea)  : askK Tryz.prog (semS Tryz.prog W0 1 noTb) 60 214 [(.sl 0 0 4 (.exact 4)), .agg [i64 m.1, i64 m.2.1, i64 m.2.2]] (roSt (meaC [x1, x2, x3, x4])) false = askK Tryz.prog (semS Tryz.prog W0 1 noTb) 60 214 [(.sl 0 0 4 (.exact 4)), .agg [i64 m.1, i64 m.2.1, i64 m.2.2]] (roSt (meaC [x1, x2, x3, x4])) true := by kernel_rfl
theorem wmm_4 (W0 : World) (m : Mea) (x1 x2 x3 x4 : Mea) (c : Nat) : valG Tryz.prog (semS Tryz.prog W0 1 noTb) 60 214 [(.sl 0 0 4 (.exact (c + 5))), .agg [i64 m.1, i64 m.2.1, i64 m.2.2]] (roSt (meaC [x1, x2, x3, x4])) rowOf = wmO [x1, x2, x3, x4] m := by kernel_rfl
theorem wmAm_4 (W0 : World) (m : Mea) (x1 x2 x3 x4 : Mea) (c : Nat) : askK Tryz.prog (semS Tryz.prog W0 1 noTb) 60 214 [(.sl 0 0 4 (.exact (c + 5))), .agg [i64 m.1, i64 m.2.1, i64 m.2.2]] (roSt (meaC [x1, x2, x3, x4])) false = askK Tryz.prog (semS Tryz.prog W0 1 noTb) 60 214 [(.sl 0 0 4 (.exact (c + 5))), .agg [i64 m.1, i64 m.2.1, i64 m.2.2]] (roSt (meaC [x1, x2, x3, x4])) true := by kernel_rfl
theorem wme_5 (W0 : World) (m : Mea) (x1 x2 x3 x4 x5 : Mea)  : valG Tryz.prog (semS Tryz.prog W0 1 noTb) 60 214 [(.sl 0 0 5 (.exact 5)), .agg [i64 m.1, i64 m.2.1, i64 m.2.2]] (roSt (meaC [x1, x2, x3, x4, x5])) rowOf = wmO [x1, x2, x3, x4, x5] m := by kernel_rfl
theorem wmAe_5 (W0 : World) (m : Mea) (x1 x2 x3 x4 x5 : Mea)  : askK Tryz.prog (semS Tryz.prog W0 1 noTb) 60 214 [(.sl 0 0 5 (.exact 5)), .agg [i64 m.1, i64 m.2.1, i64 m.2.2]] (roSt (meaC [x1, x2, x3, x4, x5])) false = askK Tryz.prog (semS Tryz.prog W0 1 noTb) 60 214 [(.sl 0 0 5 (.exact 5)), .agg [i64 m.1, i64 m.2.1, i64 m.2.2]] (roSt (meaC [x1, x2, x3, x4, x5])) true := by kernel_rfl
theorem wmm_5 (W0 : World) (m : Mea) (x1 x2 x3 x4 x5 : Mea) (c : Nat) : valG Tryz.prog (semS Tryz.prog W0 1 noTb) 60 214 [(.sl 0 0 5 (.exact (c + 6))), .agg [i64 m.1, i64 m.2.1, i64 m.2.2]] (roSt (meaC [x1, x2, x3, x4, x5])) rowOf = wmO [x1, x2, x3, x4, x5] m := by kernel_rfl
theorem wmAm_5 (W0 : World) (m : Mea) (x1 x2 x3 x4 x5 : Mea) (c : Nat) : askK Tryz.prog (semS Tryz.prog W0 1 noTb) 60 214 [(.sl 0 0 5 (.exact (c + 6))), .agg [i64 m.1, i64 m.2.1, i64 m.2.2]] (roSt (meaC [x1, x2, x3, x4, x5])) false = askK Tryz.prog (semS Tryz.prog W0 1 noTb) 60 214 [(.sl 0 0 5 (.exact (c + 6))), .agg [i64 m.1, i64 m.2.1, i64 m.2.2]] (roSt (meaC [x1, x2, x3, x4, x5])) true := by kernel_rfl
end Go.Proofs.YtilfiadkhohfiaaGreatDoor
/- Runs of withMeasure. -/
set_option linter.unusedVariables false
namespace Go.Proofs.YtilfiadkhohfiaaGreatDoor
set_option linter.unusedSimpArgs false
set_option linter.unusedVariables false
open Go Go.RowKit Go.Clo
set_option maxRecDepth 100000
theorem wme_6 (W0 : World) (m : Mea) (x1 x2 x3 x4 x5 x6 : Mea)  : valG Tryz.prog (semS Tryz.prog W0 1 noTb) 60 214 [(.sl 0 0 6 (.exact 6)), .agg [i64 m.1, i64 m.2.1, i64 m.2.2]] (roSt (meaC [x1, x2, x3, x4, x5, x6])) rowOf = wmO [x1, x2, x3, x4, x5, x6] m := by kernel_rfl
theorem wmAe_6 (W0 : World) (m : Mea) (x1 x2 x3 x4 x5 x6 : Mea)  : askK Tryz.prog (semS Tryz.prog W0 1 noTb) 60 214 [(.sl 0 0 6 (.exact 6)), .agg [i64 m.1, i64 m.2.1, i64 m.2.2]] (roSt (meaC [x1, x2, x3, x4, x5, x6])) false = askK Tryz.prog (semS Tryz.prog W0 1 noTb) 60 214 [(.sl 0 0 6 (.exact 6)), .agg [i64 m.1, i64 m.2.1, i64 m.2.2]] (roSt (meaC [x1, x2, x3, x4, x5, x6])) true := by kernel_rfl
theorem wmm_6 (W0 : World) (m : Mea) (x1 x2 x3 x4 x5 x6 : Mea) (c : Nat) : valG Tryz.prog (semS Tryz.prog W0 1 noTb) 60 214 [(.sl 0 0 6 (.exact (c + 7))), .agg [i64 m.1, i64 m.2.1, i64 m.2.2]] (roSt (meaC [x1, x2, x3, x4, x5, x6])) rowOf = wmO [x1, x2, x3, x4, x5, x6] m := by kernel_rfl
theorem wmAm_6 (W0 : World) (m : Mea) (x1 x2 x3 x4 x5 x6 : Mea) (c : Nat) : askK Tryz.prog (semS Tryz.prog W0 1 noTb) 60 214 [(.sl 0 0 6 (.exact (c + 7))), .agg [i64 m.1, i64 m.2.1, i64 m.2.2]] (roSt (meaC [x1, x2, x3, x4, x5, x6])) false = askK Tryz.prog (semS Tryz.prog W0 1 noTb) 60 214 [(.sl 0 0 6 (.exact (c + 7))), .agg [i64 m.1, i64 m.2.1, i64 m.2.2]] (roSt (meaC [x1, x2, x3, x4, x5, x6])) true := by kernel_rfl
theorem wme_7 (W0 : World) (m : Mea) (x1 x2 x3 x4 x5 x6 x7 : Mea)  : valG Tryz.prog (semS Tryz.prog W0 1 noTb) 60 214 [(.sl 0 0 7 (.exact 7)), .agg [i64 m.1, i64 m.2.1, i64 m.2.2]] (roSt (meaC [x1, x2, x3, x4, x5, x6, x7])) rowOf = wmO [x1, x2, x3, x4, x5, x6, x7] m := by kernel_rfl
theorem wmAe_7 (W0 : World) (m : Mea) (x1 x2 x3 x4 x5 x6 x7 : Mea)  : askK Tryz.prog (semS Tryz.prog W0 1 noTb) 60 214 [(.sl 0 0 7 (.exact 7)), .agg [i64 m.1, i64 m.2.1, i64 m.2.2]] (roSt (meaC [x1, x2, x3, x4, x5, x6, x7])) false = askK Tryz.prog (semS Tryz.prog W0 1 noTb) 60 214 [(.sl 0 0 7 (.exact 7)), .agg [i64 m.1, i64 m.2.1, i64 m.2.2]] (roSt (meaC [x1, x2, x3, x4, x5, x6, x7])) true := by kernel_rfl
theorem wmm_7 (W0 : World) (m : Mea) (x1 x2 x3 x4 x5 x6 x7 : Mea) (c : Nat) : valG Tryz.prog (semS Tryz.prog W0 1 noTb) 60 214 [(.sl 0 0 7 (.exact (c + 8))), .agg [i64 m.1, i64 m.2.1, i64 m.2.2]] (roSt (meaC [x1, x2, x3, x4, x5, x6, x7])) rowOf = wmO [x1, x2, x3, x4, x5, x6, x7] m := by kernel_rfl
theorem wmAm_7 (W0 : World) (m : Mea) (x1 x2 x3 x4 x5 x6 x7 : Mea) (c : Nat) : askK Tryz.prog (semS Tryz.prog W0 1 noTb) 60 214 [(.sl 0 0 7 (.exact (c + 8))), .agg [i64 m.1, i64 m.2.1, i64 m.2.2]] (roSt (meaC [x1, x2, x3, x4, x5, x6, x7])) false = askK Tryz.prog (semS Tryz.prog W0 1 noTb) 60 214 [(.sl 0 0 7 (.exact (c + 8))), .agg [i64 m.1, i64 m.2.1, i64 m.2.2]] (roSt (meaC [x1, x2, x3, x4, x5, x6, x7])) true := by kernel_rfl
theorem wme_8 (W0 : World) (m : Mea) (x1 x2 x3 x4 x5 x6 x7 x8 : Mea)  : valG Tryz.prog (semS Tryz.prog W0 1 noTb) 60 214 [(.sl 0 0 8 (.exact 8)), .agg [i64 m.1, i64 m.2.1, i64 m.2.2]] (roSt (meaC [x1, x2, x3, x4, x5, x6, x7, x8])) rowOf = wmO [x1, x2, x3, x4, x5, x6, x7, x8] m := by kernel_rfl
theorem wmAe_8 (W0 : World) (m : Mea) (x1 x2 x3 x4 x5 x6 x7 x8 : Mea)  : askK Tryz.prog (semS Tryz.prog W0 1 noTb) 60 214 [(.sl 0 0 8 (.exact 8)), .agg [i64 m.1, i64 m.2.1, i64 m.2.2]] (roSt (meaC [x1, x2, x3, x4, x5, x6, x7, x8])) false = askK Tryz.prog (semS Tryz.prog W0 1 noTb) 60 214 [(.sl 0 0 8 (.exact 8)), .agg [i64 m.1, i64 m.2.1, i64 m.2.2]] (roSt (meaC [x1, x2, x3, x4, x5, x6, x7, x8])) true := by kernel_rfl
theorem wmm_8 (W0 : World) (m : Mea) (x1 x2 x3 x4 x5 x6 x7 x8 : Mea) (c : Nat) : valG Tryz.prog (semS Tryz.prog W0 1 noTb) 60 214 [(.sl 0 0 8 (.exact (c + 9))), .agg [i64 m.1, i64 m.2.1, i64 m.2.2]] (roSt (meaC [x1, x2, x3, x4, x5, x6, x7, x8])) rowOf = wmO [x1, x2, x3, x4, x5, x6, x7, x8] m := by kernel_rfl
theorem wmAm_8 (W0 : World) (m : Mea) (x1 x2 x3 x4 x5 x6 x7 x8 : Mea) (c : Nat) : askK Tryz.prog (semS Tryz.prog W0 1 noTb) 60 214 [(.sl 0 0 8 (.exact (c + 9))), .agg [i64 m.1, i64 m.2.1, i64 m.2.2]] (roSt (meaC [x1, x2, x3, x4, x5, x6, x7, x8])) false = askK Tryz.prog (semS Tryz.prog W0 1 noTb) 60 214 [(.sl 0 0 8 (.exact (c + 9))), .agg [i64 m.1, i64 m.2.1, i64 m.2.2]] (roSt (meaC [x1, x2, x3, x4, x5, x6, x7, x8])) true := by kernel_rfl
end Go.Proofs.YtilfiadkhohfiaaGreatDoor
/- Runs of withMeasure. -/
set_option linter.unusedVariables false
namespace Go.Proofs.YtilfiadkhohfiaaGreatDoor
set_option linter.unusedSimpArgs false
set_option linter.unusedVariables false
open Go Go.RowKit Go.Clo
set_option maxRecDepth 100000
theorem wme_9 (W0 : World) (m : Mea) (x1 x2 x3 x4 x5 x6 x7 x8 x9 : Mea)  : valG Tryz.prog (semS Tryz.prog W0 1 noTb) 60 214 [(.sl 0 0 9 (.exact 9)), .agg [i64 m.1, i64 m.2.1, i64 m.2.2]] (roSt (meaC [x1, x2, x3, x4, x5, x6, x7, x8, x9])) rowOf = wmO [x1, x2, x3, x4, x5, x6, x7, x8, x9] m := by kernel_rfl
theorem wmAe_9 (W0 : World) (m : Mea) (x1 x2 x3 x4 x5 x6 x7 x8 x9 : Mea)  : askK Tryz.prog (semS Tryz.prog W0 1 noTb) 60 214 [(.sl 0 0 9 (.exact 9)), .agg [i64 m.1, i64 m.2.1, i64 m.2.2]] (roSt (meaC [x1, x2, x3, x4, x5, x6, x7, x8, x9])) false = askK Tryz.prog (semS Tryz.prog W0 1 noTb) 60 214 [(.sl 0 0 9 (.exact 9)), .agg [i64 m.1, i64 m.2.1, i64 m.2.2]] (roSt (meaC [x1, x2, x3, x4, x5, x6, x7, x8, x9])) true := by kernel_rfl
theorem wmm_9 (W0 : World) (m : Mea) (x1 x2 x3 x4 x5 x6 x7 x8 x9 : Mea) (c : Nat) : valG Tryz.prog (semS Tryz.prog W0 1 noTb) 60 214 [(.sl 0 0 9 (.exact (c + 10))), .agg [i64 m.1, i64 m.2.1, i64 m.2.2]] (roSt (meaC [x1, x2, x3, x4, x5, x6, x7, x8, x9])) rowOf = wmO [x1, x2, x3, x4, x5, x6, x7, x8, x9] m := by kernel_rfl
theorem wmAm_9 (W0 : World) (m : Mea) (x1 x2 x3 x4 x5 x6 x7 x8 x9 : Mea) (c : Nat) : askK Tryz.prog (semS Tryz.prog W0 1 noTb) 60 214 [(.sl 0 0 9 (.exact (c + 10))), .agg [i64 m.1, i64 m.2.1, i64 m.2.2]] (roSt (meaC [x1, x2, x3, x4, x5, x6, x7, x8, x9])) false = askK Tryz.prog (semS Tryz.prog W0 1 noTb) 60 214 [(.sl 0 0 9 (.exact (c + 10))), .agg [i64 m.1, i64 m.2.1, i64 m.2.2]] (roSt (meaC [x1, x2, x3, x4, x5, x6, x7, x8, x9])) true := by kernel_rfl
theorem wme_10 (W0 : World) (m : Mea) (x1 x2 x3 x4 x5 x6 x7 x8 x9 x10 : Mea)  : valG Tryz.prog (semS Tryz.prog W0 1 noTb) 60 214 [(.sl 0 0 10 (.exact 10)), .agg [i64 m.1, i64 m.2.1, i64 m.2.2]] (roSt (meaC [x1, x2, x3, x4, x5, x6, x7, x8, x9, x10])) rowOf = wmO [x1, x2, x3, x4, x5, x6, x7, x8, x9, x10] m := by kernel_rfl
theorem wmAe_10 (W0 : World) (m : Mea) (x1 x2 x3 x4 x5 x6 x7 x8 x9 x10 : Mea)  : askK Tryz.prog (semS Tryz.prog W0 1 noTb) 60 214 [(.sl 0 0 10 (.exact 10)), .agg [i64 m.1, i64 m.2.1, i64 m.2.2]] (roSt (meaC [x1, x2, x3, x4, x5, x6, x7, x8, x9, x10])) false = askK Tryz.prog (semS Tryz.prog W0 1 noTb) 60 214 [(.sl 0 0 10 (.exact 10)), .agg [i64 m.1, i64 m.2.1, i64 m.2.2]] (roSt (meaC [x1, x2, x3, x4, x5, x6, x7, x8, x9, x10])) true := by kernel_rfl
theorem wmm_10 (W0 : World) (m : Mea) (x1 x2 x3 x4 x5 x6 x7 x8 x9 x10 : Mea) (c : Nat) : valG Tryz.prog (semS Tryz.prog W0 1 noTb) 60 214 [(.sl 0 0 10 (.exact (c + 11))), .agg [i64 m.1, i64 m.2.1, i64 m.2.2]] (roSt (meaC [x1, x2, x3, x4, x5, x6, x7, x8, x9, x10])) rowOf = wmO [x1, x2, x3, x4, x5, x6, x7, x8, x9, x10] m := by kernel_rfl
theorem wmAm_10 (W0 : World) (m : Mea) (x1 x2 x3 x4 x5 x6 x7 x8 x9 x10 : Mea) (c : Nat) : askK Tryz.prog (semS Tryz.prog W0 1 noTb) 60 214 [(.sl 0 0 10 (.exact (c + 11))), .agg [i64 m.1, i64 m.2.1, i64 m.2.2]] (roSt (meaC [x1, x2, x3, x4, x5, x6, x7, x8, x9, x10])) false = askK Tryz.prog (semS Tryz.prog W0 1 noTb) 60 214 [(.sl 0 0 10 (.exact (c + 11))), .agg [i64 m.1, i64 m.2.1, i64 m.2.2]] (roSt (meaC [x1, x2, x3, x4, x5, x6, x7, x8, x9, x10])) true := by kernel_rfl
end Go.Proofs.YtilfiadkhohfiaaGreatDoor
