/- Known calls; runs on what is not known. -/
import Derived.Test.YteojbichibdhjacGreatDoorProg
import Derived.Test.YteojbichibdhjacGreatDoorWB
import Derived.Lib.ItoaNum
import Derived.Lib.Join
import Derived.Lib.TrailingZeros
import Derived.KernelRfl
/- The interpreter of closed runs, a part of it. -/
namespace Go.Clo
set_option linter.unusedSimpArgs false
set_option linter.unusedVariables false
set_option linter.unnecessarySimpa false
open Go Go.RowKit

variable {P : Program} {W0 : World}

/-! ### strconv.Itoa -/
def digs : Nat → Nat → List UInt8
  | 0, _ => []
  | f + 1, n => match Nat.blt n 10 with
    | true => [UInt8.ofNat (48 + n)]
    | false => digs f (n / 10) ++ [UInt8.ofNat (48 + n % 10)]
theorem digs_ok : ∀ {f n : Nat}, n < 10 ^ f → 0 < f → digs f n = Lib.decDigits n
  | 0, _, _, h => by omega
  | f + 1, n, h, _ => by
    unfold digs
    rw [Lib.decDigits]
    by_cases hn : n < 10
    · rw [dif_pos hn, show Nat.blt n 10 = true from Nat.ble_eq_true_of_le hn]
    · rw [dif_neg hn, show Nat.blt n 10 = false from Bool.eq_false_iff.2 fun h => hn (Nat.le_of_ble_eq_true h)]
      have hf : 0 < f := by
        rcases Nat.eq_zero_or_pos f with e | e
        · subst e; simp at h; omega
        · exact e
      simp only
      rw [digs_ok (f := f) (n := n / 10) (by rw [Nat.pow_succ] at h; omega) hf]
noncomputable def hItoa (args : List V) (s : St) : M (V × St) := match args with
  | [.int .i64 n] => match n with
    | .ofNat m => ask (Nat.blt m 1000000) "itoa" (.ok (.str ⟨(digs 6 m).toArray⟩, s))
    | .negSucc _ => .err "itoa"
  | _ => .err "itoa"
def ItoaC (P : Program) (f : FuncId) (G : World → Prop) : Prop :=
  ∀ (n : Int) (w : World), G w → -9223372036854775808 ≤ n → n ≤ 9223372036854775807 → Calls P f #[.int .i64 n] w fun e w' => e = .returned (.string ⟨(Lib.itoa n).toArray⟩) ∧ Below w.heap.size w w'
theorem itoa_ok {f : FuncId} {G : World → Prop} (hc : ItoaC P f G) {args : List V} {s : St} {v : V} {s' : St} (h : hItoa args s = .ok (v, s')) {ρ : Rho} {w : World} (hg : G w) {us : List Value} (hR : Rel W0 ρ s w) (he : EL ρ args us) :
    Calls P f us.toArray w (Ret W0 ρ s w v s') := by
  unfold hItoa at h
  split at h
  · rename_i n
    obtain ⟨u, r, rfl, hu, hr⟩ := EL.cons_inv he
    have hr := EL.nil_inv hr
    subst hr
    simp only [E] at hu
    subst hu
    cases n with
    | negSucc m => cases h
    | ofNat m =>
      obtain ⟨h1, h⟩ := ask_ok h
      have hm : m < 1000000 := Nat.le_of_ble_eq_true h1
      injection h with h
      simp only [Prod.mk.injEq] at h
      obtain ⟨rfl, rfl⟩ := h
      refine (hc (Int.ofNat m) w hg (by have := Int.natCast_nonneg m; show _ ≤ (m : Int); omega) (by show (m : Int) ≤ _; omega)).mono ?_
      rintro e w' ⟨rfl, hb⟩
      refine ⟨ρ, _, rfl, Step.below hR hb, ?_⟩
      simp only [E]
      have : Lib.itoa (Int.ofNat m) = digs 6 m := by
        unfold Lib.itoa
        rw [if_neg (by simp), digs_ok (f := 6) (by omega) (by omega)]
        rfl
      rw [this]
  · cases h

/-! ### math/bits.TrailingZeros16 -/
noncomputable def hTz (args : List V) (s : St) : M (V × St) := match args with
  | [.int .u16 n] => match n with
    | .ofNat m => ask (Nat.blt m 65536) "tz" (.ok (.int .i64 (Int.ofNat (Lib.ctz 16 m)), s))
    | .negSucc _ => .err "tz"
  | _ => .err "tz"
def TzC (P : Program) (f : FuncId) (G : World → Prop) : Prop :=
  ∀ (x : Nat) (w : World), G w → x < 65536 → Calls P f #[.int .u16 x] w fun e w' => e = .returned (.int .i64 (Lib.ctz 16 x)) ∧ w' = w
theorem tz_ok {f : FuncId} {G : World → Prop} (hc : TzC P f G) {args : List V} {s : St} {v : V} {s' : St} (h : hTz args s = .ok (v, s')) {ρ : Rho} {w : World} (hg : G w) {us : List Value} (hR : Rel W0 ρ s w) (he : EL ρ args us) :
    Calls P f us.toArray w (Ret W0 ρ s w v s') := by
  unfold hTz at h
  split at h
  · rename_i n
    obtain ⟨u, r, rfl, hu, hr⟩ := EL.cons_inv he
    have hr := EL.nil_inv hr
    subst hr
    simp only [E] at hu
    subst hu
    cases n with
    | negSucc m => cases h
    | ofNat m =>
      obtain ⟨h1, h⟩ := ask_ok h
      have hm : m < 65536 := Nat.le_of_ble_eq_true h1
      injection h with h
      simp only [Prod.mk.injEq] at h
      obtain ⟨rfl, rfl⟩ := h
      refine (hc m w hg hm).mono ?_
      rintro e w' ⟨rfl, rfl⟩
      exact ⟨ρ, _, rfl, Step.refl hR, by simp only [E]; rfl⟩
  · cases h

/-! ### strings.Join -/
def strsV : List V → Option (List ByteArray)
  | [] => some []
  | v :: l => match v with
    | .str x => match strsV l with | some r => some (x :: r) | none => none
    | _ => none
theorem strsV_ok {ρ : Rho} : ∀ {l : List V} {xs : List ByteArray} {us : List Value}, strsV l = some xs → EL ρ l us → us = xs.map Value.string
  | [], xs, us, h, he => by
    have h : some [] = some xs := h
    injection h with h; subst h
    exact EL.nil_inv he
  | v :: l, xs, us, h, he => by
    unfold strsV at h
    split at h
    · rename_i x
      cases hr : strsV l with
      | none => rw [hr] at h; cases h
      | some r =>
        rw [hr] at h
        simp only at h
        injection h with h; subst h
        obtain ⟨u, q, rfl, h1, h2⟩ := EL.cons_inv he
        simp only [E] at h1
        rw [h1, strsV_ok hr h2]; rfl
    · cases h
/-- How much a slice can hold at least. -/
noncomputable def roomV (s : St) (b off len : Nat) : Cap → Bool
  | .exact c => Nat.ble len c
  | .open_ k => Nat.beq off k && match s.get b with | some (.row _ _ sz _ _) => Nat.beq sz 1 | _ => false
noncomputable def hJoin (args : List V) (s : St) : M (V × St) := match args with
  | [.sl b off len cap, .str sep] => (s.cells b off len).bind fun cs => match strsV cs with
    | some xs => ask (Nat.ble 1 len && Nat.ble len 1000 && roomV s b off len cap && Nat.ble (Lib.join (xs.map (·.data.toList)) sep.data.toList).length 100000) "join" (.ok (.str ⟨(Lib.join (xs.map (·.data.toList)) sep.data.toList).toArray⟩, s))
    | none => .err "join"
  | _ => .err "join"
def JoinC (P : Program) (f : FuncId) : Prop :=
  ∀ (bk o c : Nat) (xs : List ByteArray) (sep : ByteArray) (w : World), (∀ (j : Nat) x, xs[j]? = some x → w.cell? ⟨bk, o + j, none⟩ = some (.string x)) → bk < w.heap.size → xs.length ≤ 140737488355328 → xs.length ≤ c →
    (Lib.join (xs.map (·.data.toList)) sep.data.toList).length ≤ 140737488355328 →
    Calls P f #[.slice (some ⟨bk, o, none⟩) xs.length c, .string sep] w fun e w' => e = .returned (.string ⟨(Lib.join (xs.map (·.data.toList)) sep.data.toList).toArray⟩) ∧ Below w.heap.size w w'
theorem join_ok {f : FuncId} (hc : JoinC P f) {args : List V} {s : St} {v : V} {s' : St} (h : hJoin args s = .ok (v, s')) {ρ : Rho} {w : World} {us : List Value} (hR : Rel W0 ρ s w) (he : EL ρ args us) :
    Calls P f us.toArray w (Ret W0 ρ s w v s') := by
  unfold hJoin at h
  split at h
  · rename_i b off len cap sep
    obtain ⟨cs, h1, h⟩ := M.bind_ok h
    cases hx : strsV cs with
    | none => rw [hx] at h; cases h
    | some xs =>
      rw [hx] at h
      obtain ⟨h2, h⟩ := ask_ok h
      injection h with h
      simp only [Prod.mk.injEq] at h
      obtain ⟨rfl, rfl⟩ := h
      simp only [Bool.and_eq_true] at h2
      obtain ⟨⟨⟨k1, k2⟩, k3⟩, k4⟩ := h2
      have k1 := Nat.le_of_ble_eq_true k1
      have k2 := Nat.le_of_ble_eq_true k2
      have k4 := Nat.le_of_ble_eq_true k4
      obtain ⟨u, r, rfl, hu, hr⟩ := EL.cons_inv he
      obtain ⟨u', r', rfl, hu', hr⟩ := EL.cons_inv hr
      have hr := EL.nil_inv hr
      subst hr
      simp only [E] at hu'
      subst hu'
      -- where it lies, and how long it is
      have hplace : ∃ l c, ρ b = some l ∧ u = .slice (some ⟨l.blk, l.off + off, none⟩) len c ∧ len ≤ c := by
        cases cap with
        | exact c =>
          simp only [E] at hu
          obtain ⟨l, hl, rfl⟩ := hu
          exact ⟨l, c, hl, rfl, Nat.le_of_ble_eq_true k3⟩
        | open_ k =>
          simp only [E] at hu
          obtain ⟨l, hl, rfl⟩ := hu
          refine ⟨l, _, hl, rfl, ?_⟩
          unfold roomV at k3
          rw [Bool.and_eq_true] at k3
          have hok := Nat.eq_of_beq_eq_true k3.1
          have k3 := k3.2
          split at k3
          · rename_i c ty sz next anc hb
            have hsz := Nat.eq_of_beq_eq_true k3
            subst hsz
            obtain ⟨_, l', hl', _, _, us, ty', g1, g2, g3, g4⟩ := hR.blk b _ hb
            rw [hl] at hl'; injection hl' with e; subst e
            have hcut : cut c off len = .ok cs := by
              have := h1
              unfold St.cells at this
              rw [hb] at this
              exact this
            have := cut_spec hcut
            omega
          · cases k3
      obtain ⟨l, c, hl, rfl, hlc⟩ := hplace
      obtain ⟨ws, e1, e2, e3⟩ := cells_ok hR hl h1
      have hws := strsV_ok hx e1
      have hxl : xs.length = len := by rw [← e2, hws]; simp
      have hb : ∃ x, s.get b = some x := by
        unfold St.cells at h1
        split at h1
        · exact ⟨_, by assumption⟩
        · exact ⟨_, by assumption⟩
        · exact ⟨_, by assumption⟩
        · cases h1
        · cases h1
      obtain ⟨x, hb⟩ := hb
      obtain ⟨_, l', hl', _, hlt, _⟩ := hR.blk b _ hb
      rw [hl] at hl'; injection hl' with e; subst e
      have := hc l.blk (l.off + off) c xs sep w (fun j x hj => by
        have := e3 j (.string x) (by rw [hws, List.getElem?_map, hj]; rfl)
        rw [Addr_add] at this
        exact this) hlt (by omega) (by omega) (by omega)
      rw [hxl] at this
      refine this.mono ?_
      rintro e w' ⟨rfl, hb⟩
      exact ⟨ρ, _, rfl, Step.below hR hb, by simp only [E]⟩
  · cases h
end Go.Clo
/- The laws' own sane of layer 6: its run, in the kernel. -/
namespace Go.Proofs.YteojbichibdhjacGreatDoor
set_option linter.unusedSimpArgs false
set_option linter.unusedVariables false
open Go Go.RowKit Go.Clo

/-- What the interpreter does not go into: three functions of Go's library. -/
noncomputable def hook : Hook := fun f args s =>
  match Nat.beq f 38 with
    | true => some (hItoa args s)
    | false => match Nat.beq f 39 with
      | true => some (hJoin args s)
      | false => match Nat.beq f 126 with
        | true => some (hTz args s)
        | false => none
noncomputable def isYes (m : M (V × St)) : Bool := match m with | .ok (.bool true, _) => true | _ => false
theorem isYes_ok {m : M (V × St)} (h : isYes m = true) : ∃ s, m = .ok (.bool true, s) := by
  unfold isYes at h
  split at h
  · exact ⟨_, rfl⟩
  · cases h
theorem hook_ok {G : World → Prop} (hg : ∀ w w', G w → Below w.heap.size w w' → G w') (hi : ItoaC Tryz.prog 38 G) (hj : JoinC Tryz.prog 39) (ht : TzC Tryz.prog 126 G) {w : World} (h : G w) : HookOK Tryz.prog w hook := by
  intro f args s v s' hh ρ W us hR he
  have hGW : G W := hg w W h hR.below
  unfold hook at hh
  cases h2 : Nat.beq f 38 with
  | true =>
    rw [h2] at hh
    have := Nat.eq_of_beq_eq_true h2
    subst this
    injection hh with hh
    exact itoa_ok hi hh hGW hR he
  | false =>
    rw [h2] at hh
    simp only at hh
    cases h3 : Nat.beq f 39 with
    | true =>
      rw [h3] at hh
      have := Nat.eq_of_beq_eq_true h3
      subst this
      injection hh with hh
      exact join_ok hj hh hR he
    | false =>
      rw [h3] at hh
      simp only at hh
      cases h4 : Nat.beq f 126 with
      | true =>
        rw [h4] at hh
        have := Nat.eq_of_beq_eq_true h4
        subst this
        injection hh with hh
        exact tz_ok ht hh hGW hR he
      | false =>
        rw [h4] at hh
        cases hh
set_option maxRecDepth 100000 in
theorem sane_runs : isYes (call Tryz.prog hook 100000 4 [] ⟨.nil, 0⟩) = true := by kernel_rfl
/-- sane says yes, wherever it is called. -/
theorem sane_from {G : World → Prop} (hmix : Tryz.prog.follows .mixedOrders = true) (hg : ∀ w w', G w → Below w.heap.size w w' → G w') (hi : ItoaC Tryz.prog 38 G) (hj : JoinC Tryz.prog 39) (ht : TzC Tryz.prog 126 G) (w : World) (h : G w) :
    Calls Tryz.prog 4 #[] w fun e w' => e = .returned (.bool true) ∧ Below w.heap.size w w' := by
  obtain ⟨s, hs⟩ := isYes_ok sane_runs
  exact call_bool hmix (hook_ok hg hi hj ht h) hs
end Go.Proofs.YteojbichibdhjacGreatDoor
