/- Known calls of the library. -/
import Derived.Test.YtilfiadkhohfiaaGreatDoorPb
import Derived.Lib.SlKeysI
import Derived.Lib.ItoaNum
import Derived.Maps.Range
import Derived.Lib.Join
import Derived.Lib.TrailingZeros
/- The interpreter of closed runs, a part of it. -/
namespace Go.Clo
set_option linter.unusedSimpArgs false
set_option linter.unusedVariables false
set_option linter.unnecessarySimpa false
open Go Go.RowKit Go.Proofs Go.Maps

variable {P : Program} {W0 : World}

/-! ### Keys in order -/
def insI (x : Int) : List Int → List Int
  | [] => [x]
  | a :: l => match intLt a x with | true => a :: insI x l | false => x :: a :: l
def sortI : List Int → List Int
  | [] => []
  | a :: l => insI a (sortI l)
def rising : List Int → Bool
  | [] => true
  | a :: l => (l.all fun b => intLt a b) && rising l
def keysI : List (V × V) → Option (List Int)
  | [] => some []
  | p :: l => match p.1 with
    | .int .i64 n => match (Lit.int .i64 n).wf with
      | true => match keysI l with | some r => some (n :: r) | none => none
      | false => none
    | _ => none
theorem intLt_ok {a b : Int} : intLt a b = true ↔ a < b := by rw [intLt_eq]; simp
theorem insI_perm (x : Int) : ∀ l, (insI x l).Perm (x :: l)
  | [] => List.Perm.refl _
  | a :: l => by
    unfold insI
    cases intLt a x with
    | true => exact ((insI_perm x l).cons a).trans (List.Perm.swap x a l)
    | false => exact List.Perm.refl _
theorem sortI_perm : ∀ l, (sortI l).Perm l
  | [] => List.Perm.refl _
  | a :: l => (insI_perm a (sortI l)).trans ((sortI_perm l).cons a)
theorem rising_pairwise : ∀ {l}, rising l = true → l.Pairwise (· < ·)
  | [], _ => List.Pairwise.nil
  | a :: l, h => by
    unfold rising at h
    rw [Bool.and_eq_true, List.all_eq_true] at h
    exact List.Pairwise.cons (fun b hb => intLt_ok.1 (h.1 b hb)) (rising_pairwise h.2)
theorem keysI_ok : ∀ {es : List (V × V)} {ks : List Int}, keysI es = some ks → es.map (·.1) = ks.map (V.int .i64) ∧ ∀ n ∈ ks, (Lit.int .i64 n).wf = true
  | [], ks, h => by
    have h : some [] = some ks := h
    injection h with h; subst h
    exact ⟨rfl, fun _ h => by cases h⟩
  | (k, v) :: es, ks, h => by
    unfold keysI at h
    simp only at h
    split at h
    · rename_i n
      cases hw : (Lit.int .i64 n).wf with
      | false => rw [hw] at h; cases h
      | true =>
        rw [hw] at h
        cases hr : keysI es with
        | none => rw [hr] at h; cases h
        | some r =>
          rw [hr] at h
          simp only at h
          injection h with h; subst h
          obtain ⟨h1, h2⟩ := keysI_ok hr
          exact ⟨by simp [h1], fun m hm => (List.mem_cons.1 hm).elim (fun e => e ▸ hw) (h2 m)⟩
    · cases h
noncomputable def hNumbers (args : List V) (s : St) : M (V × St) := match args with
  | [.map b] => match s.get b with
    | some (.map es) => match keysI es with
      | some ks => match sortI ks with
        | [] => .ok (.nils, s)
        | k :: r => ask (rising (k :: r) && Nat.ble r.length 1000) "numbers" (.ok (.sl s.size 0 (r.length + 1) (.open_ 0), s.alloc (.row ((k :: r).map (V.int .i64)) 0 1 false [])))
      | none => .err "numbers"
    | _ => .err "numbers"
  | _ => .err "numbers"
theorem ints_inv {ρ : Rho} : ∀ {ks : List Int} {us : List Value}, EL ρ (ks.map (V.int .i64)) us → us = ks.map (Value.int .i64)
  | [], us, h => EL.nil_inv h
  | k :: ks, us, h => by
    obtain ⟨u, r, rfl, h1, h2⟩ := EL.cons_inv h
    simp only [E] at h1
    rw [h1, ints_inv h2]; rfl
theorem sorted_same {a b : List Int} (h : a.Perm b) (ha : a.Pairwise (· ≤ ·)) (hb : b.Pairwise (· ≤ ·)) : a = b :=
  List.Perm.eq_of_pairwise (le := (· ≤ ·)) (fun x y _ _ h1 h2 => Int.le_antisymm h1 h2) ha hb h
/-- What is asked of a function that gives a map's keys in order. -/
def NumC (P : Program) (f : FuncId) (kt ety : TypeId) : Prop :=
  ∀ (b nn : Nat) (D0 : DataW Unit) (R : Value → Option (DataW Unit × List MemPlace)) (w : World), w.ownsMap P kt R b nn D0 → Maps.size D0 ≤ maxLen → Maps.size D0 * 8 ≤ 140737488355328 →
    Calls P f #[.map (some b)] w fun e w' => ∃ (v : Value) (ss : List Int), e = .returned v ∧ ss.Perm (intKeys D0) ∧
      w'.ownsRow w.heap.size ety 1 v ss.length ((ss.mergeSort (fun x y => decide (x ≤ y))).map encZ) ∧ (v = .slice none 0 0 ↔ ss = []) ∧ Below w.heap.size w w'
theorem numbers_ok {f : FuncId} {kt ety : TypeId} (hk : P.underlying kt = some (.int .i64)) (hc : NumC P f kt ety) {args : List V} {s : St} {v : V} {s' : St} (h : hNumbers args s = .ok (v, s')) {ρ : Rho} {w : World} {us : List Value} (hR : Rel W0 ρ s w) (he : EL ρ args us) :
    Calls P f us.toArray w (Ret W0 ρ s w v s') := by
  unfold hNumbers at h
  split at h
  · rename_i b
    obtain ⟨u, r, rfl, hu, hr⟩ := EL.cons_inv he
    have hr := EL.nil_inv hr
    subst hr
    simp only [E] at hu
    obtain ⟨l, hl, rfl⟩ := hu
    split at h
    · rename_i es hb
      obtain ⟨_, l', hl', _, _, hok⟩ := hR.blk b _ hb
      rw [hl] at hl'; injection hl' with e; subst e
      obtain ⟨ents, clock, hw, g1, g2, gb⟩ := hok
      cases hks : keysI es with
      | none => rw [hks] at h; cases h
      | some ks =>
        rw [hks] at h
        simp only at h
        obtain ⟨k1, k2⟩ := keysI_ok hks
        rw [k1] at g1
        have hkeys := ints_inv g1
        have hp := sortI_perm ks
        -- the keys are apart, and few
        have hfew : (sortI ks).Pairwise (· < ·) ∧ ks.length ≤ 1001 := by
          cases hs : sortI ks with
          | nil => rw [hs] at hp; have := hp.length_eq; simp at this; exact ⟨List.Pairwise.nil, by omega⟩
          | cons k r =>
            rw [hs] at h hp
            obtain ⟨h1, _⟩ := ask_ok h
            rw [Bool.and_eq_true] at h1
            have := hp.length_eq
            have h2 := Nat.le_of_ble_eq_true h1.2
            simp at this
            exact ⟨rising_pairwise h1.1, by omega⟩
        obtain ⟨hri, hlen⟩ := hfew
        have hnd : ks.Nodup := hp.nodup_iff.1 (hri.imp fun h e => by omega)
        have hel : ents.length = ks.length := by have := congrArg List.length hkeys; simpa using this
        let R : Value → Option (DataW Unit × List MemPlace) := fun _ => some (.nil, [])
        have hrd : ∀ x ∈ ents, ∃ n, x.key = .int .i64 n ∧ Go.WideElems.rd P kt R x = some (.int .i64 n, .nil) := fun x hx => by
          have : x.key ∈ ks.map (Value.int .i64) := by rw [← hkeys]; exact List.mem_map_of_mem hx
          obtain ⟨n, hn, hxn⟩ := List.mem_map.1 this
          refine ⟨n, hxn.symm, ?_⟩
          have hw := k2 n hn
          simp only [Go.WideElems.rd, keyOf, hk, mapKey, ← hxn, hw, and_self, if_true, R, Option.map_some, Option.bind_some]
        let D0 : DataW Unit := .map ((ents.map (Go.WideElems.rg P kt R)).foldr DataW.insert [])
        have hown : w.ownsMap P kt R l.blk ents.length D0 := ⟨ents.toArray, clock, hw, ⟨by simp [hel]; exact Nat.le_trans hlen (by decide), ⟨by simpa using gb.1, by simpa using gb.2, by
          simp only
          rw [hkeys]
          exact List.Pairwise.map _ (fun a b hab e => hab (by injection e)) hnd⟩, fun x hx => (hrd x (by simpa using hx)).elim fun n h => ⟨_, h.2⟩⟩, by simp, by simp [D0]⟩
        have hsz : Maps.size D0 = ents.length := by
          show ((ents.map (Go.WideElems.rg P kt R)).foldr DataW.insert []).length = _
          rw [(Go.WideShapes.sorted_perm _).length_eq]; simp
        have hik : (intKeys D0).Perm ks := by
          show (((ents.map (Go.WideElems.rg P kt R)).foldr DataW.insert []).map fun p => intOf p.1).Perm ks
          refine ((Go.WideShapes.sorted_perm _).map _).trans ?_
          have e : (ents.map (Go.WideElems.rg P kt R)).map (fun p => intOf p.1) = ks := by
            have e1 : (ents.map (Go.WideElems.rg P kt R)).map (fun p => intOf p.1) = (ents.map (·.key)).map fun u => match u with | .int _ n => n | _ => 0 := by
              rw [List.map_map, List.map_map]
              refine List.map_congr_left fun x hx => ?_
              obtain ⟨n, hn, hrn⟩ := hrd x hx
              simp only [Function.comp, Go.WideElems.rg, hrn, Option.getD_some, hn, intOf]
            rw [e1, hkeys, List.map_map]
            exact (List.map_congr_left fun _ _ => rfl).trans (List.map_id ks)
          rw [e]
        refine (hc l.blk ents.length D0 R w hown (by rw [hsz, hel]; exact Nat.le_trans hlen (by decide)) (by rw [hsz, hel]; omega)).mono ?_
        rintro e w' ⟨u, ss, rfl, hss, hrow, hnil, hbel⟩
        have hsort : ss.mergeSort (fun x y => decide (x ≤ y)) = sortI ks := by
          refine sorted_same ((List.mergeSort_perm _ _).trans (hss.trans (hik.trans hp.symm))) ?_ (hri.imp fun h => Int.le_of_lt h)
          have := List.pairwise_mergeSort (le := fun x y : Int => decide (x ≤ y)) (fun a b c h1 h2 => by simp at *; omega) (fun a b => by simp; omega) ss
          exact this.imp fun h => by simpa using h
        have hsl : ss.length = (sortI ks).length := by rw [← hsort]; simp
        cases hs : sortI ks with
        | nil =>
          rw [hs] at h hsl
          simp only at h
          injection h with h
          simp only [Prod.mk.injEq] at h
          obtain ⟨rfl, rfl⟩ := h
          have : ss = [] := List.eq_nil_of_length_eq_zero hsl
          exact ⟨ρ, _, rfl, Step.below hR hbel, by rw [hnil.2 this]; simp only [E]⟩
        | cons k r =>
          rw [hs] at h hsl
          obtain ⟨_, h⟩ := ask_ok h
          injection h with h
          simp only [Prod.mk.injEq] at h
          obtain ⟨rfl, rfl⟩ := h
          rcases hrow with ⟨hln, ⟨_, hz⟩ | ⟨g, cap, cur, rfl, hbase, hg, hn, hcap, hcs, htake⟩⟩
          · rw [hsl] at hz; cases hz
          · rw [hsort, hs] at htake
            have hglt : g < w'.heap.size := (Array.getElem?_eq_some_iff.1 hg).1
            have hlr : r.length + 1 = ss.length := by rw [hsl]; rfl
            refine ⟨_, _, rfl, Step.made hR hbel (l := ⟨g, 0, cap⟩) hbase hglt trivial ⟨cur.toList, ety, by simpa using hg, ?_, by simp [hcs], ?_⟩, ?_⟩
            · intro i x hx
              rw [List.getElem?_map] at hx
              cases hki : (k :: r)[i]? with
              | none => rw [hki] at hx; cases hx
              | some n =>
                rw [hki] at hx
                injection hx with hx; subst hx
                refine ⟨.int .i64 n, ?_, by simp only [E]⟩
                have : (cur.toList.take (ss.length * 1))[i]? = some (.int .i64 n) := by rw [htake, List.getElem?_map, hki]; rfl
                rw [List.getElem?_take] at this
                split at this
                · simpa using this
                · cases this
            · have := hn; rw [hsl] at this; simpa using this
            · simp only [E]
              exact ⟨⟨g, 0, cap⟩, Rho.upd_same _ _ _, by rw [hlr]; simp⟩
    · cases h
  · cases h
end Go.Clo
/- The interpreter of closed runs, a part of it. -/
namespace Go.Clo
set_option linter.unusedSimpArgs false
set_option linter.unusedVariables false
set_option linter.unnecessarySimpa false
open Go Go.RowKit Go.Proofs

variable {P : Program} {W0 : World}

/-! ### strconv.Itoa -/
def digs : Nat → Nat → List UInt8
  | 0, _ => []
  | f + 1, n => match Nat.blt n 10 with
    | true => [UInt8.ofNat (48 + n)]
    | false => digs f (n / 10) ++ [UInt8.ofNat (48 + n % 10)]
theorem digs_ok : ∀ {f n : Nat}, n < 10 ^ f → 0 < f → digs f n = Lib.decDigits n
  | 0, _, _, h => by omega
  | f + 1, n, h, _ => by
    unfold digs
    rw [Lib.decDigits]
    by_cases hn : n < 10
    · rw [dif_pos hn, show Nat.blt n 10 = true from Nat.ble_eq_true_of_le hn]
    · rw [dif_neg hn, show Nat.blt n 10 = false from Bool.eq_false_iff.2 fun h => hn (Nat.le_of_ble_eq_true h)]
      have hf : 0 < f := by
        rcases Nat.eq_zero_or_pos f with e | e
        · subst e; simp at h; omega
        · exact e
      simp only
      rw [digs_ok (f := f) (n := n / 10) (by rw [Nat.pow_succ] at h; omega) hf]
noncomputable def hItoa (args : List V) (s : St) : M (V × St) := match args with
  | [.int .i64 n] => match n with
    | .ofNat m => ask (Nat.blt m 1000000) "itoa" (.ok (.str ⟨(digs 6 m).toArray⟩, s))
    | .negSucc _ => .err "itoa"
  | _ => .err "itoa"
def ItoaC (P : Program) (f : FuncId) (G : World → Prop) : Prop :=
  ∀ (n : Int) (w : World), G w → -9223372036854775808 ≤ n → n ≤ 9223372036854775807 → Calls P f #[.int .i64 n] w fun e w' => e = .returned (.string ⟨(Lib.itoa n).toArray⟩) ∧ Below w.heap.size w w'
theorem itoa_ok {f : FuncId} {G : World → Prop} (hc : ItoaC P f G) {args : List V} {s : St} {v : V} {s' : St} (h : hItoa args s = .ok (v, s')) {ρ : Rho} {w : World} (hg : G w) {us : List Value} (hR : Rel W0 ρ s w) (he : EL ρ args us) :
    Calls P f us.toArray w (Ret W0 ρ s w v s') := by
  unfold hItoa at h
  split at h
  · rename_i n
    obtain ⟨u, r, rfl, hu, hr⟩ := EL.cons_inv he
    have hr := EL.nil_inv hr
    subst hr
    simp only [E] at hu
    subst hu
    cases n with
    | negSucc m => cases h
    | ofNat m =>
      obtain ⟨h1, h⟩ := ask_ok h
      have hm : m < 1000000 := Nat.le_of_ble_eq_true h1
      injection h with h
      simp only [Prod.mk.injEq] at h
      obtain ⟨rfl, rfl⟩ := h
      refine (hc (Int.ofNat m) w hg (by have := Int.natCast_nonneg m; show _ ≤ (m : Int); omega) (by show (m : Int) ≤ _; omega)).mono ?_
      rintro e w' ⟨rfl, hb⟩
      refine ⟨ρ, _, rfl, Step.below hR hb, ?_⟩
      simp only [E]
      have : Lib.itoa (Int.ofNat m) = digs 6 m := by
        unfold Lib.itoa
        rw [if_neg (by simp), digs_ok (f := 6) (by omega) (by omega)]
        rfl
      rw [this]
  · cases h

/-! ### math/bits.TrailingZeros64 -/
noncomputable def hTz (args : List V) (s : St) : M (V × St) := match args with
  | [.int .u64 n] => match n with
    | .ofNat m => ask (Nat.blt m 18446744073709551616) "tz" (.ok (.int .i64 (Int.ofNat (Lib.ctz 64 m)), s))
    | .negSucc _ => .err "tz"
  | _ => .err "tz"
def TzC (P : Program) (f : FuncId) (G : World → Prop) : Prop :=
  ∀ (x : Nat) (w : World), G w → x < 18446744073709551616 → Calls P f #[.int .u64 x] w fun e w' => e = .returned (.int .i64 (Lib.ctz 64 x)) ∧ w' = w
theorem tz_ok {f : FuncId} {G : World → Prop} (hc : TzC P f G) {args : List V} {s : St} {v : V} {s' : St} (h : hTz args s = .ok (v, s')) {ρ : Rho} {w : World} (hg : G w) {us : List Value} (hR : Rel W0 ρ s w) (he : EL ρ args us) :
    Calls P f us.toArray w (Ret W0 ρ s w v s') := by
  unfold hTz at h
  split at h
  · rename_i n
    obtain ⟨u, r, rfl, hu, hr⟩ := EL.cons_inv he
    have hr := EL.nil_inv hr
    subst hr
    simp only [E] at hu
    subst hu
    cases n with
    | negSucc m => cases h
    | ofNat m =>
      obtain ⟨h1, h⟩ := ask_ok h
      have hm : m < 18446744073709551616 := Nat.le_of_ble_eq_true h1
      injection h with h
      simp only [Prod.mk.injEq] at h
      obtain ⟨rfl, rfl⟩ := h
      refine (hc m w hg hm).mono ?_
      rintro e w' ⟨rfl, rfl⟩
      exact ⟨ρ, _, rfl, Step.refl hR, by simp only [E]; rfl⟩
  · cases h

/-! ### strings.Join -/
def strsV : List V → Option (List ByteArray)
  | [] => some []
  | v :: l => match v with
    | .str x => match strsV l with | some r => some (x :: r) | none => none
    | _ => none
theorem strsV_ok {ρ : Rho} : ∀ {l : List V} {xs : List ByteArray} {us : List Value}, strsV l = some xs → EL ρ l us → us = xs.map Value.string
  | [], xs, us, h, he => by
    have h : some [] = some xs := h
    injection h with h; subst h
    exact EL.nil_inv he
  | v :: l, xs, us, h, he => by
    unfold strsV at h
    split at h
    · rename_i x
      cases hr : strsV l with
      | none => rw [hr] at h; cases h
      | some r =>
        rw [hr] at h
        simp only at h
        injection h with h; subst h
        obtain ⟨u, q, rfl, h1, h2⟩ := EL.cons_inv he
        simp only [E] at h1
        rw [h1, strsV_ok hr h2]; rfl
    · cases h
/-- How much a slice can hold at least. -/
noncomputable def roomV (s : St) (b off len : Nat) : Cap → Bool
  | .exact c => Nat.ble len c
  | .open_ k => Nat.beq off k && match s.get b with | some (.row _ _ sz _ _) => Nat.beq sz 1 | _ => false
noncomputable def hJoin (args : List V) (s : St) : M (V × St) := match args with
  | [.sl b off len cap, .str sep] => (s.cells b off len).bind fun cs => match strsV cs with
    | some xs => ask (Nat.ble 1 len && Nat.ble len 1000 && roomV s b off len cap && Nat.ble (Lib.join (xs.map (·.data.toList)) sep.data.toList).length 100000) "join" (.ok (.str ⟨(Lib.join (xs.map (·.data.toList)) sep.data.toList).toArray⟩, s))
    | none => .err "join"
  | _ => .err "join"
def JoinC (P : Program) (f : FuncId) : Prop :=
  ∀ (bk o c : Nat) (xs : List ByteArray) (sep : ByteArray) (w : World), (∀ (j : Nat) x, xs[j]? = some x → w.cell? ⟨bk, o + j, none⟩ = some (.string x)) → bk < w.heap.size → xs.length ≤ 140737488355328 → xs.length ≤ c →
    (Lib.join (xs.map (·.data.toList)) sep.data.toList).length ≤ 140737488355328 →
    Calls P f #[.slice (some ⟨bk, o, none⟩) xs.length c, .string sep] w fun e w' => e = .returned (.string ⟨(Lib.join (xs.map (·.data.toList)) sep.data.toList).toArray⟩) ∧ Below w.heap.size w w'
theorem join_ok {f : FuncId} (hc : JoinC P f) {args : List V} {s : St} {v : V} {s' : St} (h : hJoin args s = .ok (v, s')) {ρ : Rho} {w : World} {us : List Value} (hR : Rel W0 ρ s w) (he : EL ρ args us) :
    Calls P f us.toArray w (Ret W0 ρ s w v s') := by
  unfold hJoin at h
  split at h
  · rename_i b off len cap sep
    obtain ⟨cs, h1, h⟩ := M.bind_ok h
    cases hx : strsV cs with
    | none => rw [hx] at h; cases h
    | some xs =>
      rw [hx] at h
      obtain ⟨h2, h⟩ := ask_ok h
      injection h with h
      simp only [Prod.mk.injEq] at h
      obtain ⟨rfl, rfl⟩ := h
      simp only [Bool.and_eq_true] at h2
      obtain ⟨⟨⟨k1, k2⟩, k3⟩, k4⟩ := h2
      have k1 := Nat.le_of_ble_eq_true k1
      have k2 := Nat.le_of_ble_eq_true k2
      have k4 := Nat.le_of_ble_eq_true k4
      obtain ⟨u, r, rfl, hu, hr⟩ := EL.cons_inv he
      obtain ⟨u', r', rfl, hu', hr⟩ := EL.cons_inv hr
      have hr := EL.nil_inv hr
      subst hr
      simp only [E] at hu'
      subst hu'
      -- where it lies, and how long it is
      have hplace : ∃ l c, ρ b = some l ∧ u = .slice (some ⟨l.blk, l.off + off, none⟩) len c ∧ len ≤ c := by
        cases cap with
        | exact c =>
          simp only [E] at hu
          obtain ⟨l, hl, rfl⟩ := hu
          exact ⟨l, c, hl, rfl, Nat.le_of_ble_eq_true k3⟩
        | open_ k =>
          simp only [E] at hu
          obtain ⟨l, hl, rfl⟩ := hu
          refine ⟨l, _, hl, rfl, ?_⟩
          unfold roomV at k3
          rw [Bool.and_eq_true] at k3
          have hok := Nat.eq_of_beq_eq_true k3.1
          have k3 := k3.2
          split at k3
          · rename_i c ty sz next anc hb
            have hsz := Nat.eq_of_beq_eq_true k3
            subst hsz
            obtain ⟨_, l', hl', _, _, us, ty', g1, g2, g3, g4⟩ := hR.blk b _ hb
            rw [hl] at hl'; injection hl' with e; subst e
            have hcut : cut c off len = .ok cs := by
              have := h1
              unfold St.cells at this
              rw [hb] at this
              exact this
            have := cut_spec hcut
            omega
          · cases k3
      obtain ⟨l, c, hl, rfl, hlc⟩ := hplace
      obtain ⟨ws, e1, e2, e3⟩ := cells_ok hR hl h1
      have hws := strsV_ok hx e1
      have hxl : xs.length = len := by rw [← e2, hws]; simp
      have hb : ∃ x, s.get b = some x := by
        unfold St.cells at h1
        split at h1
        · exact ⟨_, by assumption⟩
        · exact ⟨_, by assumption⟩
        · exact ⟨_, by assumption⟩
        · cases h1
        · cases h1
      obtain ⟨x, hb⟩ := hb
      obtain ⟨_, l', hl', _, hlt, _⟩ := hR.blk b _ hb
      rw [hl] at hl'; injection hl' with e; subst e
      have := hc l.blk (l.off + off) c xs sep w (fun j x hj => by
        have := e3 j (.string x) (by rw [hws, List.getElem?_map, hj]; rfl)
        rw [Addr_add] at this
        exact this) hlt (by omega) (by omega) (by omega)
      rw [hxl] at this
      refine this.mono ?_
      rintro e w' ⟨rfl, hb⟩
      exact ⟨ρ, _, rfl, Step.below hR hb, by simp only [E]⟩
  · cases h
end Go.Clo
