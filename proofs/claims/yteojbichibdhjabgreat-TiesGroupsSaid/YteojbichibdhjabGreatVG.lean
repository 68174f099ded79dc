/- The interpreter of closed runs, a part of it. -/
import Derived.Test.YteojbichibdhjabGreatVF
import Derived.Laws.BytesArg
namespace Go.Clo
set_option linter.unusedSimpArgs false
set_option linter.unusedVariables false
set_option linter.unnecessarySimpa false
open Go Go.RowKit

variable {P : Program}

theorem run_sliceBound' (k : IntKind) (i y : Nat) (code : BoundsCode) (h : i ≤ y) (w : World) : (Instr.sliceBound (.int k (i : Int)) y code).run P w = .ok i w := by
  have : (0 : Int) ≤ i ∧ (i : Int) ≤ y := ⟨by omega, by omega⟩
  simp [Instr.sliceBound, asIntOf, this]
theorem run_bounds (isS : Bool) {len cap l h m : Nat} {lo hi mx : Option Value} (h1 : (mx = none ∧ m = cap) ∨ ∃ k, mx = some (.int k (m : Int)) ∧ m ≤ cap) (h2 : (hi = none ∧ mx = none ∧ h = len) ∨ ∃ k, hi = some (.int k (h : Int)) ∧ h ≤ m)
    (h3 : (lo = none ∧ l = 0) ∨ ∃ k, lo = some (.int k (l : Int)) ∧ l ≤ h) (w : World) : (Instr.sliceBounds isS len cap lo hi mx).run P w = .ok (l, h, m) w := by
  rcases h1 with ⟨rfl, rfl⟩ | ⟨k1, rfl, h1⟩ <;> rcases h2 with ⟨rfl, h2, rfl⟩ | ⟨k2, rfl, h2⟩ <;> rcases h3 with ⟨rfl, rfl⟩ | ⟨k3, rfl, h3⟩ <;> first
    | (cases h2; done)
    | simp [Instr.sliceBounds, run_sliceBound', *]

theorem optN_ok {ρ : Rho} {t : Fr} {a : Act} (hf : FrE ρ t a.tmps) {d n : Nat} {x : Option Operand} (h : optN t d x = .ok n) : (x = none ∧ n = d) ∨ ∃ y k, x = some y ∧ a.eval y = .int k (n : Int) := by
  cases x with
  | none => simp only [optN] at h; injection h with h; exact Or.inl ⟨rfl, h.symm⟩
  | some y =>
    obtain ⟨v, h1, h2⟩ := M.bind_ok h
    obtain ⟨k, hk⟩ := natI_ok h2 (ev_ok hf h1)
    exact Or.inr ⟨y, k, rfl, hk⟩
theorem optO_ok {ρ : Rho} {t : Fr} {a : Act} (hf : FrE ρ t a.tmps) {m : Option Nat} {x : Option Operand} (h : optO t x = .ok m) : (x = none ∧ m = none) ∨ ∃ y k n, x = some y ∧ m = some n ∧ a.eval y = .int k (n : Int) := by
  cases x with
  | none => simp only [optO] at h; injection h with h; exact Or.inl ⟨rfl, h.symm⟩
  | some y =>
    obtain ⟨v, h1, h2⟩ := M.bind_ok h
    obtain ⟨n, h2, h3⟩ := M.bind_ok h2
    injection h3 with h3
    obtain ⟨k, hk⟩ := natI_ok h2 (ev_ok hf h1)
    exact Or.inr ⟨y, k, n, rfl, h3.symm, hk⟩
/-- The three bounds of a slice, in the model. -/
theorem bounds_of {ρ : Rho} {t : Fr} {a : Act} (hf : FrE ρ t a.tmps) {lo hi mx : Option Operand} {len cap l h : Nat} {m : Option Nat} (isS : Bool) (hb : (hi.isNone && mx.isSome) = false) (h1 : optN t 0 lo = .ok l) (h2 : optN t len hi = .ok h) (h3 : optO t mx = .ok m)
    (hl : l ≤ h) (hh : h ≤ m.getD cap) (hm : m.getD cap ≤ cap) (w : World) : (Instr.sliceBounds isS len cap (lo.map a.eval) (hi.map a.eval) (mx.map a.eval)).run P w = .ok (l, h, m.getD cap) w := by
  refine run_bounds isS ?_ ?_ ?_ w
  · rcases optO_ok hf h3 with ⟨rfl, rfl⟩ | ⟨y, k, n, rfl, rfl, e⟩
    · exact Or.inl ⟨rfl, rfl⟩
    · exact Or.inr ⟨k, by simp [e], by simpa using hm⟩
  · rcases optN_ok hf h2 with ⟨rfl, rfl⟩ | ⟨y, k, rfl, e⟩
    · have : mx = none := by cases mx <;> simp_all
      subst this
      exact Or.inl ⟨rfl, rfl, rfl⟩
    · exact Or.inr ⟨k, by simp [e], hh⟩
  · rcases optN_ok hf h1 with ⟨rfl, rfl⟩ | ⟨y, k, rfl, e⟩
    · exact Or.inl ⟨rfl, rfl⟩
    · exact Or.inr ⟨k, by simp [e], hl⟩
theorem and3 {a b c : Bool} (h : (a && b && c) = true) : a = true ∧ b = true ∧ c = true := by cases a <;> cases b <;> cases c <;> simp at h <;> simp
theorem sliceE_ok {ρ : Rho} {b off cap sz lo h : Nat} {m : Option Nat} {v : V} {l : Loc} (hl : ρ b = some l) (hs : sliceE b off cap sz lo h m = .ok v) :
    lo ≤ h ∧ h ≤ m.getD cap ∧ m.getD cap ≤ cap ∧ E ρ v (.slice (some (if m.getD cap = lo then ⟨l.blk, l.off + off, none⟩ else (⟨l.blk, l.off + off, none⟩ : Addr).add (lo * sz))) (h - lo) (m.getD cap - lo)) := by
  cases m with
  | none =>
    obtain ⟨h1, h2⟩ := ask_ok hs
    rw [Bool.and_eq_true] at h1
    refine ⟨ble_le h1.1, ble_le h1.2, Nat.le_refl _, ?_⟩
    simp only [Option.getD_none]
    split at h2
    · rename_i he
      have he := beq_eq he
      injection h2 with h2; subst h2
      simp only [E, if_pos he]
      exact ⟨l, hl, by simp [he]⟩
    · rename_i he
      have he := beq_false he
      injection h2 with h2; subst h2
      simp only [E, if_neg he]
      exact ⟨l, hl, by rw [Addr_add, Nat.add_assoc]⟩
  | some m =>
    obtain ⟨h1, h2⟩ := ask_ok hs
    obtain ⟨h1, h3, h4⟩ := and3 h1
    refine ⟨ble_le h1, ble_le h3, ble_le h4, ?_⟩
    simp only [Option.getD_some]
    split at h2
    · rename_i he
      have he := beq_eq he
      injection h2 with h2; subst h2
      simp only [E, if_pos he]
      exact ⟨l, hl, by simp [he]⟩
    · rename_i he
      have he := beq_false he
      injection h2 with h2; subst h2
      simp only [E, if_neg he]
      exact ⟨l, hl, by rw [Addr_add, Nat.add_assoc]⟩
theorem sliceO_ok {ρ : Rho} {b off j size sz lo h : Nat} {m : Option Nat} {v : V} {l : Loc} (hl : ρ b = some l) (hsz : size ≤ l.cap - j) (hs : sliceO b off j size sz lo h m = .ok v) :
    lo ≤ h ∧ h ≤ m.getD (l.cap - j) ∧ m.getD (l.cap - j) ≤ l.cap - j ∧ E ρ v (.slice (some (if m.getD (l.cap - j) = lo then ⟨l.blk, l.off + off, none⟩ else (⟨l.blk, l.off + off, none⟩ : Addr).add (lo * sz))) (h - lo) (m.getD (l.cap - j) - lo)) := by
  cases m with
  | none =>
    cases hz : (Nat.beq lo h && Nat.beq h size && Nat.blt 0 lo) with
    | true =>
      have hs : (match Nat.beq lo h && Nat.beq h size && Nat.blt 0 lo with | true => M.ok (V.slz b (off + lo * sz) (j + lo)) | false => ask (Nat.ble lo h && Nat.ble h size && (Nat.blt lo size || Nat.beq lo 0)) "slice" (.ok (.sl b (off + lo * sz) (h - lo) (.open_ (j + lo))))) = .ok v := hs
      rw [hz] at hs
      obtain ⟨h1, h2, h3⟩ := and3 hz
      have h1 := beq_eq h1
      have h2 := beq_eq h2
      have h3 := blt_lt h3
      injection hs with hs; subst hs
      subst h1
      refine ⟨by omega, by simp; omega, Nat.le_refl _, ?_⟩
      simp only [E]
      refine ⟨l, hl, _, by rw [Nat.sub_self, Option.getD_none, show l.cap - (j + lo) = l.cap - j - lo by omega], fun hlt => ?_⟩
      rw [if_neg (by omega), Addr_add, Nat.add_assoc]
    | false =>
    have hs : (match Nat.beq lo h && Nat.beq h size && Nat.blt 0 lo with | true => M.ok (V.slz b (off + lo * sz) (j + lo)) | false => ask (Nat.ble lo h && Nat.ble h size && (Nat.blt lo size || Nat.beq lo 0)) "slice" (.ok (.sl b (off + lo * sz) (h - lo) (.open_ (j + lo))))) = .ok v := hs
    rw [hz] at hs
    obtain ⟨h1, h2⟩ := ask_ok hs
    obtain ⟨h1, h3, h4⟩ := and3 h1
    have h3 := ble_le h3
    refine ⟨ble_le h1, by simp; omega, Nat.le_refl _, ?_⟩
    simp only [Option.getD_none]
    injection h2 with h2; subst h2
    simp only [E]
    refine ⟨l, hl, ?_⟩
    have e1 : l.cap - (j + lo) = l.cap - j - lo := by omega
    rw [e1]
    rw [Bool.or_eq_true] at h4
    by_cases he : l.cap - j = lo
    · rw [if_pos he]
      have : lo = 0 := by
        rcases h4 with h4 | h4
        · have := blt_lt h4; omega
        · exact beq_eq h4
      subst this
      simp
    · rw [if_neg he, Addr_add, Nat.add_assoc]
  | some m =>
    obtain ⟨h1, h2⟩ := ask_ok hs
    rw [Bool.and_eq_true] at h1
    obtain ⟨h1, h3, h4⟩ := and3 h1.1
    have h4 := ble_le h4
    refine ⟨ble_le h1, ble_le h3, by simp; omega, ?_⟩
    simp only [Option.getD_some]
    split at h2
    · rename_i he
      have he := beq_eq he
      injection h2 with h2; subst h2
      simp only [E, if_pos he]
      exact ⟨l, hl, by simp [he]⟩
    · rename_i he
      have he := beq_false he
      injection h2 with h2; subst h2
      simp only [E, if_neg he]
      exact ⟨l, hl, by rw [Addr_add, Nat.add_assoc]⟩
theorem PureOK.read {o : Oper} {f : Fr → M V} (h : PureOK P o f) {W0 : World} {ρ : Rho} {s : St} {w : World} {t : Fr} {a : Act} {v : V} (_ : Rel W0 ρ s w) (hf : FrE ρ t a.tmps) (hv : f t = .ok v) : ∃ u, E ρ v u ∧ (execOp a.eval o).run P w = .ok (.value u) w := by
  obtain ⟨u, h1, h2⟩ := h ρ t a v hf hv
  exact ⟨u, h1, h2 w⟩
theorem rowLen_ok {W0 : World} {ρ : Rho} {s : St} {w : World} (hR : Rel W0 ρ s w) {b n k : Nat} {l : Loc} (hl : ρ b = some l) (h : rowLen s b n = .ok k) : k ≤ l.cap * n := by
  unfold rowLen at h
  split at h
  · rename_i c ty sz next anc hb
    obtain ⟨h1, h2⟩ := ask_ok h
    have h1 := beq_eq h1
    subst h1
    injection h2 with h2; subst h2
    obtain ⟨_, l', hl', _, _, hok⟩ := hR.blk b _ hb
    rw [hl] at hl'; injection hl' with e; subst e
    obtain ⟨us, ty', _, _, _, h4⟩ := hok
    rw [lenN_eq]; exact h4
  · cases h
theorem fSlice_read {o : Oper} {ty : TypeId} {x : Operand} {lo hi mx : Option Operand} (ho : o.op = .slice ty x lo hi mx) {g : Fr → St → M V} (h : fSlice P o ty x lo hi mx = .read g) : ReadOK P o g := by
  unfold fSlice at h
  split at h
  · cases h
  rename_i hbad
  split at h
  · rename_i e hu
    obtain ⟨⟨el, n⟩, hen, h⟩ := orBad_read h
    obtain ⟨hn, hs, hcase⟩ := elemT_ok hen
    have he : e = el := by
      rcases hcase with hc | ⟨m, hc⟩
      · rw [hu] at hc; injection hc with hc; injection hc
      · rw [hu] at hc; injection hc with hc; cases hc
    subst he
    injection h with h; subst h
    intro W0 ρ s w t a v hR hf h
    unfold gSliceSl at h
    obtain ⟨va, h1, h⟩ := M.bind_ok h
    have e1 := ev_ok hf h1
    split at h
    · rename_i b off len cap
      obtain ⟨lo', h2, h⟩ := M.bind_ok h
      obtain ⟨hi', h3, h⟩ := M.bind_ok h
      obtain ⟨mx', h4, h⟩ := M.bind_ok h
      cases cap with
      | exact c =>
        simp only [E] at e1; obtain ⟨l, hl, hx⟩ := e1
        obtain ⟨g1, g2, g3, g4⟩ := sliceE_ok hl h
        refine ⟨_, g4, ?_⟩
        simp only [execOp, ho]
        refine run_value ?_
        have hb := bounds_of (P := P) hf (a := a) true hbad h2 h3 h4 g1 g2 g3 w
        simp only [Instr.sliceAt, Sem.run_bind, run_underlying hu, Result.andThen_ok, Instr.slice, hx, hb, run_sizeT hs, Sem.run_pure]
        split <;> rfl
      | open_ j =>
        simp only [E] at e1; obtain ⟨l, hl, hx⟩ := e1
        obtain ⟨k, h5, h⟩ := M.bind_ok h
        obtain ⟨h6, h⟩ := ask_ok h
        have h6 := beq_eq h6
        have h7 := rowLen_ok hR hl h5
        have hsz : (k - off) / n ≤ l.cap - j := by
          rw [h6]
          apply Nat.div_le_of_le_mul
          rw [Nat.mul_sub, Nat.mul_comm n l.cap, Nat.mul_comm n j]
          exact Nat.sub_le_sub_right h7 _
        obtain ⟨g1, g2, g3, g4⟩ := sliceO_ok hl hsz h
        refine ⟨_, g4, ?_⟩
        simp only [execOp, ho]
        refine run_value ?_
        have hb := bounds_of (P := P) hf (a := a) true hbad h2 h3 h4 g1 g2 g3 w
        simp only [Instr.sliceAt, Sem.run_bind, run_underlying hu, Result.andThen_ok, Instr.slice, hx, hb, run_sizeT hs, Sem.run_pure]
        split <;> rfl
    · rename_i b0 o0 k0
      obtain ⟨lo', h2, h⟩ := M.bind_ok h
      obtain ⟨hi', h3, h⟩ := M.bind_ok h
      obtain ⟨h4, h⟩ := ask_ok h
      injection h with h; subst h
      obtain ⟨q4, q5, h6⟩ := and3 h4
      obtain rfl := beq_eq q4
      obtain rfl := beq_eq q5
      have hmx : mx = none := by cases mx <;> simp_all
      subst hmx
      simp only [E] at e1; obtain ⟨l, hl, ad, hx, hp⟩ := e1
      generalize hcc : l.cap - k0 = c at hx
      have hb := bounds_of (P := P) hf (a := a) (mx := none) (m := none) (cap := c) true (by simp) h2 h3 rfl (Nat.le_refl _) (Nat.zero_le _) (Nat.le_refl _) w
      refine ⟨.slice (some (if c = 0 then ad else ad.add 0)) 0 c, by simp only [E]; exact ⟨l, hl, _, by rw [hcc], fun hlt => by rw [hp hlt]; simp [Addr_add]⟩, ?_⟩
      simp only [execOp, ho]
      refine run_value ?_
      simp only [Option.map_none] at hb
      simp only [Instr.sliceAt, Sem.run_bind, run_underlying hu, Result.andThen_ok, Instr.slice, hx, hb, run_sizeT hs, Sem.run_pure, Option.map_none, Option.getD_none]
      split <;> simp_all
    · exact (pureOp_ok (by intro cs b; rw [ho]; simp)).read hR hf h
  · rename_i k e hu
    obtain ⟨⟨el, n⟩, hen, h⟩ := orBad_read h
    obtain ⟨hn, hs, hcase⟩ := elemT_ok hen
    have he : e = el := by
      rcases hcase with hc | ⟨m, hc⟩
      · rw [hu] at hc; injection hc with hc; cases hc
      · rw [hu] at hc; injection hc with hc; injection hc
    subst he
    injection h with h; subst h
    intro W0 ρ s w t a v hR hf h
    unfold gSliceArr at h
    obtain ⟨va, h1, h⟩ := M.bind_ok h
    have e1 := ev_ok hf h1
    split at h
    · rename_i b off
      obtain ⟨lo', h2, h⟩ := M.bind_ok h
      obtain ⟨hi', h3, h⟩ := M.bind_ok h
      obtain ⟨mx', h4, h⟩ := M.bind_ok h
      simp only [E] at e1; obtain ⟨l, hl, hx⟩ := e1
      obtain ⟨g1, g2, g3, g4⟩ := sliceE_ok hl h
      refine ⟨_, g4, ?_⟩
      simp only [execOp, ho]
      refine run_value ?_
      have hb := bounds_of (P := P) hf (a := a) false hbad h2 h3 h4 g1 g2 g3 w
      simp only [Instr.sliceAt, Sem.run_bind, run_underlying hu, Result.andThen_ok, Instr.sureAddr, hx, hb, run_sizeT hs, Sem.run_pure]
    · cases h
  · cases h

theorem byteL_ok {ρ : Rho} : ∀ {l : List V} {r : List UInt8} {us : List Value}, EL ρ l us → byteL l = .ok r → ∃ ns : List Int, us = ns.map (Value.int .u8) ∧ r = ns.map fun n => UInt8.ofNat n.toNat
  | [], r, us, he, h => by
    have h : M.ok [] = M.ok r := h
    injection h with h; subst h
    exact ⟨[], EL.nil_inv he, rfl⟩
  | v :: l, r, us, he, h => by
    obtain ⟨u, us, rfl, h1, h2⟩ := EL.cons_inv he
    have h : ((byte1 v).bind fun b => (byteL l).bind fun r => .ok (b :: r)) = M.ok r := h
    obtain ⟨b, h4, h⟩ := M.bind_ok h
    obtain ⟨r', h3, h⟩ := M.bind_ok h
    injection h with h; subst h
    obtain ⟨ns, rfl, rfl⟩ := byteL_ok h2 h3
    unfold byte1 at h4
    split at h4
    · injection h4 with h4; subst h4
      simp only [E] at h1; subst h1
      exact ⟨_ :: ns, rfl, rfl⟩
    · cases h4
theorem gStr_ok {o : Oper} {src dst : TypeId} {x : Operand} (ho : o.op = .convert src dst x) {g : Fr → St → M V} (h : fConv P o src dst x = .read g) : ReadOK P o g := by
  unfold fConv at h
  split at h
  · cases h
  · rename_i e h1 h2
    split at h
    · rename_i h8
      injection h with h; subst h
      have he : P.underlying e = some (.int .u8) := by unfold isU8 at h8; split at h8 <;> first | assumption | cases h8
      intro W0 ρ s w t a v hR hf h
      unfold gStr at h
      obtain ⟨va, h3, h⟩ := M.bind_ok h
      have e1 := ev_ok hf h3
      split at h
      · injection h with h; subst h
        simp only [E] at e1
        refine ⟨_, by simp only [E]; rfl, ?_⟩
        simp only [execOp, ho]
        refine run_value ?_
        rw [e1]
        exact run_convert_bytes_nil w src e h1 he 0 0 dst h2
      · rename_i b off len cap
        obtain ⟨c, h4, h⟩ := M.bind_ok h
        obtain ⟨r, h5, h⟩ := M.bind_ok h
        injection h with h; subst h
        have : ∃ l c, ρ b = some l ∧ a.eval x = .slice (some ⟨l.blk, l.off + off, none⟩) len c := by cases cap <;> (simp only [E] at e1; obtain ⟨l, hl, e1⟩ := e1; exact ⟨l, _, hl, e1⟩)
        obtain ⟨l, cc, hl, hx⟩ := this
        obtain ⟨us, g1, g2, g3⟩ := cells_ok hR hl h4
        obtain ⟨ns, rfl, rfl⟩ := byteL_ok g1 h5
        refine ⟨.string (strOfNums ns), by simp only [E]; rfl, ?_⟩
        simp only [execOp, ho]
        refine run_value ?_
        rw [hx]
        have hlen : ns.length = len := by simpa using g2
        refine run_convert_bytes_arg w src e h1 he l.blk (l.off + off) len cc ns hlen (fun i hi => ?_) dst h2
        have := g3 i (.int .u8 (ns.getD i 0)) (by simp [List.getD, List.getElem?_eq_getElem (show i < ns.length by omega)])
        rwa [Addr_add] at this
      · cases h
    · cases h
  · cases h

theorem ba_beq (a b : ByteArray) : (a == b) = decide (a = b) := by
  by_cases h : a = b
  · subst h; simp; cases a; rename_i d; show (d == d) = true; simp
  · simp [h]; cases a; cases b; rename_i d e; show (d == e) = false; simp at h; simpa using h
/-- Maps. -/
def kindOf (num : Bool) (d : TypeDesc) : Prop := match num with
  | true => ∃ k, d = .int k
  | false => d = .string
theorem keyTy_ok {kt : TypeId} {num : Bool} (h : keyTy P kt = some num) : ∃ d, P.underlying kt = some d ∧ kindOf num d := by
  unfold keyTy at h
  split at h
  · rename_i k hu; injection h with h; subst h; exact ⟨_, hu, k, rfl⟩
  · rename_i hu; injection h with h; subst h; exact ⟨_, hu, rfl⟩
  · cases h
theorem keyCmp_ok {ρ : Rho} {num : Bool} {d : TypeDesc} (hd : kindOf num d) {k p : V} {r : Bool} (hk : keyOk num k = true) (h : keyCmp k p = some r) {uk up : Value} (e1 : E ρ k uk) (e2 : E ρ p up) :
    Instr.sameNow d uk up = some r ∧ (r = true → uk = up) := by
  unfold keyCmp at h
  split at h
  · split at h
    · rename_i k1 a k2 b hkk
      obtain rfl := kindBeq_eq hkk
      injection h with h; subst h
      simp only [E] at e1 e2
      subst e1; subst e2
      cases num
      · simp [keyOk] at hk
      · obtain ⟨kk, rfl⟩ := hd
        rw [intBeq_eq]
        exact ⟨by simp [Instr.sameNow], fun hh => by rw [eq_of_beq hh]⟩
    · cases h
  · injection h with h; subst h
    simp only [E] at e1 e2
    subst e1; subst e2
    cases num
    · have hd : d = .string := hd
      subst hd
      refine ⟨?_, fun hh => by rw [of_decide_eq_true hh]⟩
      simp only [Instr.sameNow]
      rw [ba_beq]
    · simp [keyOk] at hk
  · cases h
theorem findM_cons (k : V) (p : V × V) (l : List (V × V)) : findM k (p :: l) = find1 p.2 (findM k l) (keyCmp k p.1) := rfl
theorem findM_ok {ρ : Rho} {num : Bool} {d : TypeDesc} (hd : kindOf num d) {k : V} (hk : keyOk num k = true) {uk : Value} (ek : E ρ k uk) : ∀ {es : List (V × V)} {ents : List MapEntry} {r : Option V} (i : Nat),
    findM k es = .ok r → EL ρ (es.map (·.1)) (ents.map (·.key)) → EL ρ (es.map (·.2)) (ents.map (·.val)) →
    match r with
    | none => Instr.findNow d uk ents i = some none
    | some v => ∃ j u, Instr.findNow d uk ents i = some (some (j, u)) ∧ E ρ v u
  | [], ents, r, i, h, h1, h2 => by
    have : M.ok none = M.ok r := h
    injection this with this; subst this
    have := EL.nil_inv h1
    have : ents = [] := by simpa using this
    subst this
    rfl
  | p :: es, ents, r, i, h, h1, h2 => by
    cases ents with
    | nil => have := h1.len; simp at this
    | cons e ents =>
      simp only [List.map_cons] at h1 h2
      obtain ⟨u, q, e1, hE1, h1⟩ := EL.cons_inv h1
      obtain ⟨u', q', e2, hE2, h2⟩ := EL.cons_inv h2
      simp only [List.cons.injEq] at e1 e2
      obtain ⟨rfl, rfl⟩ := e1
      obtain ⟨rfl, rfl⟩ := e2
      rw [findM_cons] at h
      unfold find1 at h
      split at h
      · rename_i hc
        injection h with h; subst h
        have := (keyCmp_ok hd hk hc ek hE1).1
        exact ⟨i, e.val, by simp [Instr.findNow, this], hE2⟩
      · rename_i hc
        have := (keyCmp_ok hd hk hc ek hE1).1
        have ih := findM_ok hd hk ek (i + 1) h h1 h2
        cases r with
        | none => simpa [Instr.findNow, this] using ih
        | some v => simpa [Instr.findNow, this] using ih
      · cases h
theorem run_checkKey {kt : TypeId} {num : Bool} {d : TypeDesc} (hu : P.underlying kt = some d) (hd : kindOf num d) (b : Bool) (u : Value) (w : World) : (Instr.checkKey b 10000 kt u).run P w = .ok () w := by
  have key : ∀ n, (Instr.checkKey b (n + 1) kt u).run P w = .ok () w := by
    intro n
    cases num
    · have hd : d = .string := hd
      subst hd
      simp [Instr.checkKey, run_underlying hu]
    · obtain ⟨k, rfl⟩ := hd
      simp [Instr.checkKey, run_underlying hu]
  exact key 9999
theorem mapOf_ok {W0 : World} {ρ : Rho} {s : St} {w : World} (hR : Rel W0 ρ s w) {v : V} {u : Value} {es : List (V × V)} (he : E ρ v u) (h : mapOf s v = .ok es) :
    (u = .map none ∧ es = []) ∨ ∃ b l ents clock, v = .map b ∧ ρ b = some l ∧ s.get b = some (.map es) ∧ u = .map (some l.blk) ∧ w.heap[l.blk]? = some (.map (ents : List MapEntry).toArray clock) ∧ EL ρ (es.map (·.1)) (ents.map (·.key)) ∧ EL ρ (es.map (·.2)) (ents.map (·.val)) := by
  unfold mapOf at h
  split at h
  · injection h with h; subst h
    simp only [E] at he
    exact Or.inl ⟨he, rfl⟩
  · split at h
    · rename_i b _ es' hb
      injection h with h; subst h
      simp only [E] at he; obtain ⟨l, hl, hu⟩ := he
      obtain ⟨_, l', hl', _, _, hok⟩ := hR.blk b _ hb
      rw [hl] at hl'; injection hl' with e; subst e
      obtain ⟨ents, clock, h1, h2, h3, _⟩ := hok
      exact Or.inr ⟨b, l, ents, clock, rfl, hl, hb, hu, h1, h2, h3⟩
    · cases h
  · cases h
theorem run_getObj_map {w : World} {r : Nat} {ents : Array MapEntry} {clock : Nat} (h : w.heap[r]? = some (.map ents clock)) : (getObj r).run P w = .ok (.map ents clock) w := by
  simp [getObj, Sem.run, h]
theorem fLookup_read {o : Oper} {ty : TypeId} {x k : Operand} {ok : Bool} (ho : o.op = .lookup ty x k ok) {g : Fr → St → M V} (h : fLookup P ty x k ok = .read g) : ReadOK P o g := by
  unfold fLookup at h
  split at h
  · rename_i kt el hu
    obtain ⟨z, hz, h⟩ := orBad_read h
    obtain ⟨num, hnum, h⟩ := orBad_read h
    injection h with h; subst h
    obtain ⟨d, hkd, hd⟩ := keyTy_ok hnum
    obtain ⟨zu, hzo, hzr⟩ := run_zeroT hz
    intro W0 ρ s w t a v hR hf h
    unfold gLookup at h
    obtain ⟨key, h1, h⟩ := M.bind_ok h
    obtain ⟨hk, h⟩ := ask_ok h
    obtain ⟨m, h2, h⟩ := M.bind_ok h
    obtain ⟨es, h3, h⟩ := M.bind_ok h
    obtain ⟨r, h4, h⟩ := M.bind_ok h
    injection h with h; subst h
    have ek := ev_ok hf h1
    have em := ev_ok hf h2
    have hzE : E ρ z zu := ofVal_ok hzo
    have hfound : ∀ (ents : List MapEntry), EL ρ (es.map (·.1)) (ents.map (·.key)) → EL ρ (es.map (·.2)) (ents.map (·.val)) →
        ∃ u q, E ρ (found z ok r) u ∧ Instr.findNow d (a.eval k) ents 0 = some q ∧ (match q with | some (_, y) => u = if ok then .tuple #[y, .bool true] else y | none => u = if ok then .tuple #[zu, .bool false] else zu) := by
      intro ents g1 g2
      have := findM_ok hd hk ek 0 h4 g1 g2
      cases r with
      | none =>
        refine ⟨if ok then .tuple #[zu, .bool false] else zu, none, ?_, this, rfl⟩
        cases ok
        · exact hzE
        · simp only [found, E]; exact ⟨[zu, .bool false], rfl, EL.cons hzE (EL.cons (by simp only [E]) EL.nil)⟩
      | some y =>
        obtain ⟨j, u, g3, g4⟩ := this
        refine ⟨if ok then .tuple #[u, .bool true] else u, some (j, u), ?_, g3, rfl⟩
        cases ok
        · exact g4
        · simp only [found, E]; exact ⟨[u, .bool true], rfl, EL.cons g4 (EL.cons (by simp only [E]) EL.nil)⟩
    rcases mapOf_ok hR em h3 with ⟨e1, e2⟩ | ⟨b, l, ents, clock, _, hl, hb, e1, hw, g1, g2⟩
    · obtain ⟨u, q, g3, g4, g5⟩ := hfound [] (by rw [e2]; exact EL.nil) (by rw [e2]; exact EL.nil)
      refine ⟨u, g3, ?_⟩
      simp only [execOp, ho]
      refine run_value ?_
      cases q with
      | none =>
        simp only at g5
        simp [Instr.lookup, run_underlying hu, e1, run_checkKey hkd hd, Instr.findKey, run_underlying hkd, g4, hzr, g5]
      | some q =>
        simp only at g5
        simp [Instr.lookup, run_underlying hu, e1, run_checkKey hkd hd, Instr.findKey, run_underlying hkd, g4, hzr, g5]
    · obtain ⟨u, q, g3, g4, g5⟩ := hfound ents g1 g2
      refine ⟨u, g3, ?_⟩
      simp only [execOp, ho]
      refine run_value ?_
      cases q with
      | none =>
        simp only at g5
        simp [Instr.lookup, run_underlying hu, e1, run_getObj_map hw, run_checkKey hkd hd, Instr.findKey, run_underlying hkd, g4, hzr, g5]
      | some q =>
        simp only at g5
        simp [Instr.lookup, run_underlying hu, e1, run_getObj_map hw, run_checkKey hkd hd, Instr.findKey, run_underlying hkd, g4, hzr, g5]
  · cases h
theorem lenM_eq (l : List (V × V)) : lenM l = l.length := by
  induction l with
  | nil => rfl
  | cons a l ih => show Nat.succ (lenM l) = _; rw [ih]; rfl
theorem fLen_read {o : Oper} {args : Array Operand} {tys : Array TypeId} {x : Operand} (ho : o.op = .call { callee := .builtin .len, args, argTypes := tys }) (ha : args.toList = [x]) {g : Fr → St → M V} (h : fLen P tys.toList.head? x = .read g) : ReadOK P o g := by
  obtain rfl := toList_one ha
  have ht : tys.toList.head? = tys[0]? := by cases tys; rename_i l; cases l <;> simp
  rw [ht] at h
  unfold fLen at h
  split at h
  · cases h
  · rename_i ty hty
    split at h
    · cases h
    · cases h
    · rename_i kt el hu
      injection h with h; subst h
      intro W0 ρ s w t a v hR hf h
      unfold gLenMap at h
      obtain ⟨m, h1, h⟩ := M.bind_ok h
      obtain ⟨es, h2, h⟩ := M.bind_ok h
      injection h with h; subst h
      obtain ⟨cs, hcs⟩ := run_builtin' (P := P) ho a
      refine ⟨_, by simp only [E]; rfl, ?_⟩
      rw [hcs, lenM_eq]
      rcases mapOf_ok hR (ev_ok hf h1) h2 with ⟨e1, e2⟩ | ⟨b, l, ents, clock, _, hl, hb, e1, hw, g1, g2⟩
      · simp [builtin, Builtin.len_, hty, e1, run_underlying hu, goInt, e2]
      · have := g1.len
        simp at this
        simp [builtin, Builtin.len_, hty, e1, run_underlying hu, run_getObj_map hw, goInt, this]
    · cases h
    · split at h <;> cases h
    · cases h
end Go.Clo
