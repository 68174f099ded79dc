/- The interpreter of closed runs, a part of it. -/
import Derived.Test.YteojbichibdhjabGreatVE
import Derived.DeepKeys
import Derived.Laws.StructEq
namespace Go.Clo
set_option linter.unusedSimpArgs false
set_option linter.unusedVariables false
set_option linter.unnecessarySimpa false
open Go Go.RowKit

variable {P : Program}

def leafV (k : Leaf) (v : Value) : Prop := match k with
  | .int k => ∃ n, v = .int k n ∧ (Lit.int k n).wf = true
  | .bool => ∃ b, v = .bool b
def litOf (v : Value) : Lit := match v with
  | .int k n => .int k n
  | .bool b => .bool b
  | _ => .bool false
def MatchL : List Leaf → List Value → Prop
  | [], cs => cs = []
  | k :: ks, cs => ∃ v r, cs = v :: r ∧ leafV k v ∧ MatchL ks r
theorem MatchL.length : ∀ {ks : List Leaf} {cs : List Value}, MatchL ks cs → cs.length = ks.length
  | [], _, h => by rw [show _ = [] from h]; rfl
  | _ :: _, _, ⟨v, r, h, _, h2⟩ => by rw [h]; simp [MatchL.length h2]
theorem MatchL.split : ∀ {a b : List Leaf} {cs : List Value}, MatchL (a ++ b) cs → ∃ c1 c2, cs = c1 ++ c2 ∧ MatchL a c1 ∧ MatchL b c2
  | [], b, cs, h => ⟨[], cs, rfl, rfl, h⟩
  | k :: a, b, cs, ⟨v, r, h, h1, h2⟩ => by
    obtain ⟨c1, c2, e, m1, m2⟩ := MatchL.split (a := a) h2
    exact ⟨v :: c1, c2, by rw [h, e]; rfl, ⟨v, c1, rfl, h1, m1⟩, m2⟩
theorem sized_ok {t : TypeId} {ks r : List Leaf} (h : sized P t ks = some r) : r = ks ∧ P.cellsOf t = ks.length := by
  unfold sized at h
  split at h
  · rename_i hb
    injection h with h
    exact ⟨h.symm, Nat.eq_of_beq_eq_true hb⟩
  · cases h
/-- What leavesT says of a type. -/
def LeafOK (P : Program) (d : Nat) (t : TypeId) (ks : List Leaf) : Prop := P.cellsOf t = ks.length ∧ ∀ cs, MatchL ks cs → P.keyLits d t cs = some (cs.map litOf)
theorem leavesF_ok {d : Nat} (IH : ∀ t ks, leavesT P d t = some ks → LeafOK P d t ks) : ∀ {fs : List Field} {off : Nat} {ks : List Leaf}, leavesF P (leavesT P d) off fs = some ks → ∀ {pre cs : List Value}, MatchL ks cs → pre.length = off →
    ∃ ls, fs.mapM (fun f => P.keyLits d f.type (((pre ++ cs).drop f.offset).take (P.cellsOf f.type))) = some ls ∧ ls.flatten = cs.map litOf
  | [], off, ks, h, pre, cs, hm, hp => by
    have h : some [] = some ks := h
    injection h with h; subst h
    have hm : cs = [] := hm
    subst hm
    exact ⟨[], rfl, rfl⟩
  | fl :: fs, off, ks, h, pre, cs, hm, hp => by
    unfold leavesF at h
    split at h
    · rename_i hb
      have hb := Nat.eq_of_beq_eq_true hb
      cases hk : leavesT P d fl.type with
      | none => rw [hk] at h; cases h
      | some k1 =>
        rw [hk] at h
        simp only at h
        cases hr : leavesF P (leavesT P d) (off + k1.length) fs with
        | none => rw [hr] at h; cases h
        | some m =>
          rw [hr] at h
          simp only at h
          injection h with h; subst h
          obtain ⟨c1, c2, rfl, m1, m2⟩ := hm.split
          obtain ⟨i1, i2⟩ := IH _ _ hk
          have hc := m1.length
          obtain ⟨ls, e1, e2⟩ := leavesF_ok IH hr (pre := pre ++ c1) m2 (by simp [hp, hc])
          have hsl : ((pre ++ (c1 ++ c2)).drop fl.offset).take (P.cellsOf fl.type) = c1 := by
            rw [hb, ← hp, List.drop_left, i1, ← hc, List.take_left]
          refine ⟨c1.map litOf :: ls, ?_, by simp [e2]⟩
          rw [List.mapM_cons, hsl, i2 c1 m1]
          rw [List.append_assoc] at e1
          rw [e1]
          rfl
    · cases h
theorem leavesR_ok {d : Nat} {e : TypeId} {k1 : List Leaf} (IH : LeafOK P d e k1) : ∀ {m i : Nat} {pre cs : List Value}, MatchL (leavesR k1 m) cs → pre.length = i * P.cellsOf e →
    ∃ ls, (List.range' i m).mapM (fun j => P.keyLits d e (((pre ++ cs).drop (j * P.cellsOf e)).take (P.cellsOf e))) = some ls ∧ ls.flatten = cs.map litOf
  | 0, i, pre, cs, hm, hp => by
    have hm : cs = [] := hm
    subst hm
    exact ⟨[], rfl, rfl⟩
  | m + 1, i, pre, cs, hm, hp => by
    obtain ⟨c1, c2, rfl, m1, m2⟩ := MatchL.split (a := k1) (b := leavesR k1 m) hm
    have hc := m1.length
    obtain ⟨ls, e1, e2⟩ := leavesR_ok IH (m := m) (i := i + 1) (pre := pre ++ c1) m2 (by rw [List.length_append, hp, hc, IH.1, Nat.succ_mul])
    have hsl : ((pre ++ (c1 ++ c2)).drop (i * P.cellsOf e)).take (P.cellsOf e) = c1 := by
      rw [← hp, List.drop_left, IH.1, ← hc, List.take_left]
    refine ⟨c1.map litOf :: ls, ?_, by simp [e2]⟩
    rw [List.range'_succ, List.mapM_cons, hsl, IH.2 c1 m1]
    rw [List.append_assoc] at e1
    rw [e1]
    rfl
theorem leavesT_ok : ∀ {d : Nat} {t : TypeId} {ks : List Leaf}, leavesT P d t = some ks → LeafOK P d t ks
  | 0, t, ks, h => by cases h
  | d + 1, t, ks, h => by
    unfold leavesT at h
    cases hu : P.underlying t with
    | none => rw [hu] at h; cases h
    | some ty =>
      rw [hu] at h
      cases ty with
      | bool =>
        obtain ⟨rfl, h2⟩ := sized_ok h
        refine ⟨h2, fun cs hm => ?_⟩
        obtain ⟨v, r, rfl, ⟨b, rfl⟩, hr⟩ := hm
        have hr : r = [] := hr
        subst hr
        simp only [Program.keyLits, hu]; rfl
      | int k =>
        obtain ⟨rfl, h2⟩ := sized_ok h
        refine ⟨h2, fun cs hm => ?_⟩
        obtain ⟨v, r, rfl, ⟨n, rfl, hw⟩, hr⟩ := hm
        have hr : r = [] := hr
        subst hr
        simp only [Program.keyLits, hu, hw, and_self, if_true]; rfl
      | array n e =>
        simp only at h
        cases hk : leavesT P d e with
        | none => rw [hk] at h; cases h
        | some k1 =>
          rw [hk] at h
          obtain ⟨rfl, h2⟩ := sized_ok h
          refine ⟨h2, fun cs hm => ?_⟩
          have IH := leavesT_ok hk
          obtain ⟨ls, e1, e2⟩ := leavesR_ok IH (m := n) (i := 0) (pre := []) hm (by simp)
          rw [List.nil_append] at e1
          have hlen : cs.length = P.cellsOf t := by rw [h2]; exact hm.length
          simp only [Program.keyLits, hu, hlen, if_true, List.range_eq_range', e1, Option.map_some, e2]
      | struct fs =>
        simp only at h
        cases ha : fs.all (·.name != "_") with
        | false => rw [ha] at h; cases h
        | true =>
          rw [ha] at h
          simp only at h
          cases hk : leavesF P (leavesT P d) 0 fs.toList with
          | none => rw [hk] at h; cases h
          | some k1 =>
            rw [hk] at h
            obtain ⟨rfl, h2⟩ := sized_ok h
            refine ⟨h2, fun cs hm => ?_⟩
            obtain ⟨ls, e1, e2⟩ := leavesF_ok (fun _ _ h => leavesT_ok h) hk (pre := []) hm rfl
            rw [List.nil_append] at e1
            have hlen : cs.length = P.cellsOf t := by rw [h2]; exact hm.length
            simp only [Program.keyLits, hu, hlen, ha, and_self, if_true, e1, Option.map_some, e2]
      | _ => cases h
theorem inR_ok {k : IntKind} {n : Int} (h : inR k n = true) : (Lit.int k n).wf = true := by
  unfold inR at h
  cases n with
  | ofNat m =>
    have h := Nat.le_of_ble_eq_true h
    show (decide (k.min ≤ (m : Int)) && decide ((m : Int) ≤ k.max)) = true
    rw [Bool.and_eq_true, decide_eq_true_eq, decide_eq_true_eq]
    cases k <;> simp only [top] at h <;> simp only [IntKind.min, IntKind.max, IntKind.signed, IntKind.bits] <;> simp <;> omega
  | negSucc m =>
    simp only [Bool.and_eq_true] at h
    obtain ⟨hs, h⟩ := h
    have h := Nat.le_of_ble_eq_true h
    show (decide (k.min ≤ Int.negSucc m) && decide (Int.negSucc m ≤ k.max)) = true
    rw [Bool.and_eq_true, decide_eq_true_eq, decide_eq_true_eq, Int.negSucc_eq]
    cases k <;> first | (cases hs; done) | (simp only [top] at h; simp only [IntKind.min, IntKind.max, IntKind.signed, IntKind.bits]; simp; omega)
theorem cmpL_ok {ρ : Rho} : ∀ {ks : List Leaf} {l l' : List V} {c : Bool}, cmpL ks l l' = some c → ∀ {us us' : List Value}, EL ρ l us → EL ρ l' us' → MatchL ks us ∧ MatchL ks us' ∧ (c = true ↔ us.map litOf = us'.map litOf)
  | [], l, l', c, h, us, us', e, e' => by
    cases l with
    | cons v l => cases h
    | nil =>
      cases l' with
      | cons v l => cases h
      | nil =>
        have h : some true = some c := h
        injection h with h; subst h
        rw [EL.nil_inv e, EL.nil_inv e']
        exact ⟨rfl, rfl, by simp⟩
  | k :: ks, l, l', c, h, us, us', e, e' => by
    cases l with
    | nil => cases h
    | cons v l =>
      cases l' with
      | nil => cases h
      | cons v' l' =>
        have hc : cmp1 k v v' (cmpL ks l l') = some c := h
        clear h
        have h := hc
        clear hc
        unfold cmp1 at h
        split at h
        · cases h
        · rename_i r hr
          obtain ⟨u, q, rfl, e1, e2⟩ := EL.cons_inv e
          obtain ⟨u', q', rfl, e1', e2'⟩ := EL.cons_inv e'
          obtain ⟨m1, m2, m3⟩ := cmpL_ok hr e2 e2'
          split at h
          · rename_i k k1 n k2 n'
            split at h
            · rename_i hb
              simp only [Bool.and_eq_true] at hb
              obtain ⟨⟨⟨b1, b2⟩, b3⟩, b4⟩ := hb
              have b1 := kindBeq_eq b1
              have b2 := kindBeq_eq b2
              subst b1; subst b2
              injection h with h; subst h
              simp only [E] at e1 e1'
              subst e1; subst e1'
              refine ⟨⟨_, _, rfl, ⟨n, rfl, inR_ok b3⟩, m1⟩, ⟨_, _, rfl, ⟨n', rfl, inR_ok b4⟩, m2⟩, ?_⟩
              rw [Bool.and_eq_true, m3, intBeq_eq]
              simp [litOf]
            · cases h
          · rename_i bb bb'
            injection h with h; subst h
            simp only [E] at e1 e1'
            subst e1; subst e1'
            refine ⟨⟨_, _, rfl, ⟨_, rfl⟩, m1⟩, ⟨_, _, rfl, ⟨_, rfl⟩, m2⟩, ?_⟩
            rw [Bool.and_eq_true, m3]
            simp [litOf]
          · cases h
theorem aggK_ok {t : TypeId} {ks : List Leaf} (h : aggK P t = some ks) : isWide P t = true ∧ P.keyTypeAt 50 t = true ∧ P.eqGuardType P.depth t = false ∧ LeafOK P 50 t ks := by
  unfold aggK at h
  split at h
  · rename_i hb
    simp only [Bool.and_eq_true, Bool.not_eq_true'] at hb
    exact ⟨hb.1.1, hb.1.2, hb.2, leavesT_ok h⟩
  · cases h
theorem gBin2_ok {o : Oper} {op : BinOp} {ty ty' : TypeId} {x y : Operand} (ho : o.op = .binOp op ty x y ty') : PureOK P o (gBin2 P o op (tyKind P ty) (aggK P ty) x y) := by
  intro ρ t a v hf h
  unfold gBin2 at h
  cases hk : aggK P ty with
  | none => rw [hk] at h; exact gBin_ok ho ρ t a v hf h
  | some ks =>
    rw [hk] at h
    obtain ⟨va, h1, h⟩ := M.bind_ok h
    obtain ⟨vb, h2, h⟩ := M.bind_ok h
    have e1 := ev_ok hf h1
    have e2 := ev_ok hf h2
    split at h
    · rename_i l l'
      simp only [E] at e1 e2
      obtain ⟨us, e1, g1⟩ := e1
      obtain ⟨us', e2, g2⟩ := e2
      split at h
      · rename_i r hr
        injection h with h; subst h
        obtain ⟨c, hc, hr⟩ := nilF_some hr
        obtain ⟨hw, hkt, hgd, hl1, hl2⟩ := aggK_ok hk
        obtain ⟨m1, m2, m3⟩ := cmpL_ok hc g1 g2
        have form : ∀ us : List Value, MatchL ks us → (Value.agg us.toArray).formed P ty = true := fun us hm => by
          unfold Value.formed
          unfold isWide at hw
          have := hm.length
          split at hw
          · rename_i hu; simp [hu, hl1, this]
          · rename_i hu; simp [hu, hl1, this]
          · cases hw
        have hrun : ∀ w, (Op.equalIn 10000 ty (.agg us.toArray) (.agg us'.toArray)).run P w = .ok c w := fun w => by
          obtain ⟨r, hr, hi⟩ := run_equalIn_deep 9950 50 ty hkt w 50 50 (.agg us.toArray) (.agg us'.toArray) _ _ (form us m1) (form us' m2) (by simpa [Value.cells] using hl2 us m1) (by simpa [Value.cells] using hl2 us' m2)
          have : r = c := by
            rw [Bool.eq_iff_iff, hi, m3]
          rw [← this]; exact hr
        unfold nilF at hr
        simp only at hr
        split at hr
        · injection hr with hr; subst hr
          refine ⟨.bool c, by simp only [E], fun w => ?_⟩
          simp only [execOp, ho]
          refine run_value ?_
          rw [e1, e2]
          simp only [Sem.run_bind, run_eqGuard_agg _ _ _ _ _ _ _ hgd, Result.andThen_ok, run_eql_struct, hrun, Sem.run_pure]
        · injection hr with hr; subst hr
          refine ⟨.bool (!c), by simp only [E], fun w => ?_⟩
          simp only [execOp, ho]
          refine run_value ?_
          rw [e1, e2]
          simp only [Sem.run_bind, run_eqGuard_agg _ _ _ _ _ _ _ hgd, Result.andThen_ok, run_neq_struct, hrun, Sem.run_pure]
        · cases hr
      · exact pureOp_ok (fun cs b => by rw [ho]; intro h; cases h) ρ t a v hf h
    · refine gBin_ok ho ρ t a v hf ?_
      exact h
end Go.Clo
