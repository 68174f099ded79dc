/- Layer 6: the specification's Meet. -/
import Derived.Test.YteojbichibdhjacGreatDoorLh
namespace Go.Proofs.YteojbichibdhjacGreatDoor
set_option linter.unusedSimpArgs false
set_option linter.unusedVariables false
open Go Go.RowKit

/-- A new slice of one number. -/
def oneW (c : Int) : Word := fun v w => ∃ b, v = .slice (some ⟨b, 0, none⟩) 1 1 ∧ b < w.heap.size ∧ w.cell? ⟨b, 0, none⟩ = some (.int .i64 c)
theorem oneW_lasts {w0 : World} (c : Int) : lasts (clOld w0) (oneW c) := fun v w w' _ hR ⟨b, hv, hb, h⟩ => ⟨b, hv, Nat.lt_of_lt_of_le hb hR.size, by rw [hR.cell (by exact hb)]; exact h⟩
theorem oneW_new {w0 w : World} {c : Int} {ρ : Operand → Value} {o : Oper} (h : (execOp ρ o).run Tryz.prog w = .ok (.value (.slice (some ⟨w.heap.size, 0, none⟩) 1 1)) (w.alloc (.cells #[.int .i64 c] 3))) (hC : (clOld w0).C w) :
    ∃ u w', (execOp ρ o).run Tryz.prog w = .ok (.value u) w' ∧ (clOld w0).R w w' ∧ oneW c u w' :=
  ⟨_, _, h, (Below.refl _ _).alloc (Nat.le_refl _) _, _, rfl, by simp, (Blk.new w [.int .i64 c] 3).cell rfl⟩
theorem one_cells {w : World} {b : Nat} {c : Int} (h : w.cell? ⟨b, 0, none⟩ = some (.int .i64 c)) : ∀ (j : Nat) (u : Value), [Value.int .i64 c][j]? = some u → w.cell? ((⟨b, 0, none⟩ : Addr).add j) = some u := fun j u hj => by
  match j, hj with
  | 0, hj =>
    simp at hj
    subst hj
    rw [addr_plain]
    exact h
theorem mul33 (t t' : TypeId) (x y : Operand) (v : Int) (h : 0 ≤ v ∧ v < 32) (w : World) : (do eqGuard .mul t x y (.int .i64 33) (.int .i64 v); binOp .mul t' (.int .i64 33) (.int .i64 v) : Sem Value).run Tryz.prog w = .ok (.int .i64 (33 * v)) w := by
  have hw : IntKind.i64.wrap (33 * v) = 33 * v := by rw [IntKind.wrap_i64]; omega
  simp [go_sem, hw]
theorem add33 (t t' : TypeId) (x y : Operand) (u v : Int) (h : 0 ≤ u ∧ u < 2000 ∧ 0 ≤ v ∧ v < 32) (w : World) : (do eqGuard .add t x y (.int .i64 u) (.int .i64 v); binOp .add t' (.int .i64 u) (.int .i64 v) : Sem Value).run Tryz.prog w = .ok (.int .i64 (u + v)) w := by
  have hw : IntKind.i64.wrap (u + v) = u + v := by rw [IntKind.wrap_i64]; omega
  simp [go_sem, hw]
/-- The first k codes, in memory. -/
structure MS (w : World) (C : List Int) (k : Nat) (tf : Value) (wr : World) : Prop where
  own : wr.ownsRow w.heap.size 3 1 tf k (ivL (C.take k))
  old : Below w.heap.size w wr
theorem MS.below {w wr wx : World} {C : List Int} {k : Nat} {tf : Value} (h : MS w C k tf wr) (hb : Below wr.heap.size wr wx) : MS w C k tf wx := ⟨own_below h.own hb, h.old.trans (hb.mono h.old.size)⟩
theorem MS.add {w wr w6 : World} {C : List Int} {k : Nat} {q : Int} {tf v2 : Value} (h : MS w C k tf wr) (hk : C[k]? = some q)
    (hO : w6.ownsRow w.heap.size 3 1 v2 (k + 1) (ivL (C.take k) ++ [.int .i64 q])) (hg : wr.grownBy w6 tf.ownBlock) : MS w C (k + 1) v2 w6 := by
  refine ⟨?_, h.old.grown hg h.old.size (fun q hq => (World.ownsRow.lt h.own q hq).1)⟩
  have hkl := (List.getElem?_eq_some_iff.1 hk).1
  have e : C[k] = q := (List.getElem?_eq_some_iff.1 hk).2
  rw [← List.take_append_getElem hkl, ivL_snoc, e]
  exact hO
set_option maxRecDepth 100000 in
set_option maxHeartbeats 4000000 in
theorem rmeet_any (a b : Option Addr) (ca cb : Nat) (la lb : List Int) (w : World) (hla : la.length ≤ 1000) (hlb : lb.length ≤ 1000) (hs : IntsAt w a la) (ht : IntsAt w b lb) :
    Calls Tryz.prog 8 #[.slice a la.length ca, .slice b lb.length cb] w fun e w' => ∃ r c, e = .returned (.tuple #[.slice r (meetR la lb).length c, .int .i64 (errB la lb)]) ∧ IntsAt w' r (meetR la lb) ∧ Below w.heap.size w w' := by
  have HB0 := Lib.hid (rboth_any a b ca cb la lb w hla hlb hs ht)
  have HS := Lib.hid hs
  have HT := Lib.hid ht
  unfold meetR
  rcases errB_split la lb with ⟨he, h1, h2, h3⟩ | ⟨he, _⟩
  · obtain ⟨g1, g2, g3⟩ := okP_nrm h1
    have HSA := Lib.hid (okP_small h1)
    have HSB := Lib.hid (okP_small h2)
    have HL : Hid ((intN (nrmP (codeL la lb)).2).length = la.length) := by rw [Hid, nrm_full, codeL_len h3]
    have HCL : Hid ((codeL la lb).length = la.length) := codeL_len h3
    have HNO : Hid (∀ W f fc, IntsAt W f (codeL la lb) → Calls Tryz.prog 23 #[.slice f la.length fc] W fun e w' => ∃ r c, e = .returned (.slice r la.length c) ∧ IntsAt w' r (intN (nrmP (codeL la lb)).2) ∧ Below W.heap.size W w') := fun W f fc hW => by
      have := rnormal_any f fc (codeL la lb) W (by rw [HCL.out]; exact hla) hW
      rw [HCL.out] at this; exact this
    have HCG : Hid (∀ (i : Nat) (x y : Int), la[i]? = some x → lb[i]? = some y → (codeL la lb)[i]? = some (33 * x + y)) := fun i x y => codeL_get
    rw [he] at HB0 ⊢
    simp only [if_true, HL.out]
    generalize intN (nrmP (codeL la lb)).2 = r at *
    generalize codeL la lb = C at *
    obtain ⟨n, hn⟩ : ∃ n, n = la.length := ⟨_, rfl⟩
    rw [← hn] at HB0 h3 g2 hla HL HCL HNO ⊢
    rw [← h3] at HB0 hlb ⊢
    have HN : Hid (n = la.length ∧ n = lb.length) := ⟨hn, h3⟩
    clear hn hs ht he h1 h2 h3 g1 g3 hlb
    obtain ⟨i0, hi0, hz0, hz1, hz2⟩ := info_parts infoInt
    go_enter Tryz.func8, Tryz.ntmps8
    go_wp2_with (first | (go_at_call 22; refine HB0.out.mono ?_; rintro e w1 ⟨rfl, rfl⟩; clear HB0))
    go_loopw [7, 8] (fun t7 t8 wr => ∃ k : Nat, k ≤ n ∧ t8 = .int .i64 k ∧ Hid (MS w C k t7 wr)) (fun _ t8 _ => n - (intOf t8).toNat)
    case atStart => exact ⟨0, by omega, rfl, World.ownsRow_nil _ _ _ _, Below.refl _ _⟩
    case round =>
      obtain ⟨k, hk, rfl, H⟩ := hrel
      have hFL := H.out.own
      obtain ⟨fa, fc, rfl, hkG, hfi⟩ := own_ints hFL
      rw [← hkG] at H ⊢
      have HKG := Lib.hid hkG
      clear hFL hfi hkG
      by_cases hlt : k < n
      · have hka : k < la.length := by rw [← HN.out.1]; exact hlt
        have hkb : k < lb.length := by rw [← HN.out.2]; exact hlt
        obtain ⟨b1, o1, rfl, l1, c1⟩ := (HS.out.below H.out.old).at hka
        obtain ⟨b2, o2, rfl, l2, c2⟩ := (HT.out.below H.out.old).at hkb
        have G1 := List.getElem?_eq_getElem hka
        have G2 := List.getElem?_eq_getElem hkb
        generalize la[k] = x at *
        generalize lb[k] = y at *
        have HBX := Lib.hid (HSA.out k x G1)
        have HBY := Lib.hid (HSB.out k y G2)
        have HCK := Lib.hid (HCG.out k x y G1 G2)
        have HC : Hid (∀ W, Old wr.drew W → W.cell? ⟨b1, o1 + k, none⟩ = some (.int .i64 x) ∧ W.cell? ⟨b2, o2 + k, none⟩ = some (.int .i64 y)) := fun W h => ⟨by rw [Below.cell h (by exact l1)]; exact c1, by rw [Below.cell h (by exact l2)]; exact c2⟩
        have HLT : Hid (k < n) := hlt
        clear hka hkb c1 c2 l1 l2 G1 G2
        have t3 : decide (k < n) = true := decide_eq_true hlt
        obtain ⟨q, hq⟩ : ∃ q, q = 33 * x + y := ⟨_, rfl⟩
        have HQ := Lib.hid hq
        rw [← hq] at HCK
        clear hq
        go_upto_region 8 with (fail)
        refine wp_region_old 12 36 (by kernel_rfl) (by kernel_rfl) (by rfl) ?_
        simp only [List.take_succ_cons, List.take_zero, List.drop_succ_cons, List.drop_zero, List.drop_nil]
        refine chain_move (.slice fa k fc) _ (fun _ _ => Below.refl _ _) rfl rfl (by kernel_rfl) (by kernel_rfl) rfl ?_
        refine chain_move (.slice (some ⟨b1, o1, none⟩) n ca) _ (fun _ _ => Below.refl _ _) rfl rfl (by kernel_rfl) (by kernel_rfl) rfl ?_
        refine chain_move (.int .i64 k) _ (fun _ _ => Below.refl _ _) rfl rfl (by kernel_rfl) (by kernel_rfl) rfl ?_
        refine chain_idx (.pointer (some ⟨b1, o1 + k, none⟩)) _ _ _ (.slice (some ⟨b1, o1, none⟩) n ca) (.int .i64 k) (fun _ _ => Below.refl _ _) rfl rfl (by kernel_rfl) (by kernel_rfl) rfl rfl (fun w1 => idx_i64 _ _ _ _ _ HLT.out w1) ?_
        refine chain_load (.int .i64 x) _ _ _ (fun _ _ => Below.refl _ _) rfl rfl (by kernel_rfl) (by kernel_rfl) rfl (fun w1 hC => load_i64 (HC.out _ hC).1) ?_
        refine chain_bin (.int .i64 (33 * x)) _ _ _ _ _ (.int .i64 33) (.int .i64 x) (fun _ _ => Below.refl _ _) rfl rfl (by kernel_rfl) (by kernel_rfl) rfl rfl (fun w1 => mul33 _ _ _ _ _ HBX.out w1) ?_
        refine chain_move (.slice (some ⟨b2, o2, none⟩) n cb) _ (fun _ _ => Below.refl _ _) rfl rfl (by kernel_rfl) (by kernel_rfl) rfl ?_
        refine chain_move (.int .i64 k) _ (fun _ _ => Below.refl _ _) rfl rfl (by kernel_rfl) (by kernel_rfl) rfl ?_
        refine chain_idx (.pointer (some ⟨b2, o2 + k, none⟩)) _ _ _ (.slice (some ⟨b2, o2, none⟩) n cb) (.int .i64 k) (fun _ _ => Below.refl _ _) rfl rfl (by kernel_rfl) (by kernel_rfl) rfl rfl (fun w1 => idx_i64 _ _ _ _ _ HLT.out w1) ?_
        refine chain_load (.int .i64 y) _ _ _ (fun _ _ => Below.refl _ _) rfl rfl (by kernel_rfl) (by kernel_rfl) rfl (fun w1 hC => load_i64 (HC.out _ hC).2) ?_
        refine chain_bin (.int .i64 q) _ _ _ _ _ (.int .i64 (33 * x)) (.int .i64 y) (fun _ _ => Below.refl _ _) rfl rfl (by kernel_rfl) (by kernel_rfl) rfl rfl (fun w1 => by rw [HQ.out]; exact add33 _ _ _ _ _ _ (by have := HBX.out; have := HBY.out; omega) w1) ?_
        refine chain_new (oneW q) (oneW_lasts _) rfl (by intro cs b h; cases h) (by kernel_rfl) (by kernel_rfl) (fun w1 hC => oneW_new (by simp [execOp, evE, lk_cons, lk_nil, slotL, go_sem, Instr.buildSlice]) hC) ?_
        refine chain_end (by rfl) ?_
        intro xs w1 hCw1 hrew1
        simp only [layE, List.foldr_cons, List.foldr_nil, List.set_cons_succ, List.set_cons_zero]
        have H1 := Lib.hid (H.out.below (show Below wr.heap.size wr w1 from old_end (Below.refl _ _) hCw1 (Nat.le_refl _)))
        obtain ⟨b9, hb9, hl9, hc9⟩ := hrew1 32 _ rfl
        simp only [hb9]
        have HC9 := Lib.hid hc9
        clear hCw1 hrew1 HC hb9 hl9 hc9 H
        go_wp2_with (at_builtin; go_loud (refine wpList_append_own _ rfl _ _ 22 rfl w.heap.size 3 i0 (.int .i64 0) 1 8 Tryz.underlying22 hi0 hz0 hz1 hz2 rfl (by decide) (.slice fa k fc) k (ivL (C.take k)) rfl H1.out.own ⟨b9, 0, none⟩ 1 1 [.int .i64 q] rfl rfl (one_cells HC9.out) (by simp [Value.oneCell']) (by simp only [maxLen]; omega) (by omega) (by have := H1.out.old.size; omega) ?_; intro v2 w6 hown' hgrow _; have K6 := Lib.hid (H1.out.add HCK.out hown' hgrow); clear hown' hgrow))
        exact ⟨⟨k + 1, by omega, by simp, K6.out⟩, by simp [intOf]; omega⟩
      · have e : k = n := by omega
        subst e
        have HI : Hid (IntsAt wr fa C) := by
          obtain ⟨fa', fc', he, _, hfi⟩ := own_ints H.out.own
          simp only [Value.slice.injEq] at he
          obtain ⟨rfl, _, rfl⟩ := he
          rwa [List.take_of_length_le (by rw [HCL.out]; exact Nat.le_refl _)] at hfi
        have t3 : decide (k < k) = false := decide_eq_false (by omega)
        go_wp2_with (first | (go_at_call 23; refine (HNO.out _ _ _ HI.out).mono ?_; rintro e w2 ⟨r9, c9, rfl, hi, hb⟩; have HI2 := Lib.hid hi; have HB2 := Lib.hid (H.out.old.trans (hb.mono H.out.old.size)); clear hi hb HNO))
        go_ret2
        first | exact ⟨_, ⟨_, rfl⟩, HI2.out, HB2.out⟩ | exact ⟨_, _, rfl, HI2.out, HB2.out⟩
  · rw [he] at HB0 ⊢
    rw [if_neg (by decide)]
    clear hs ht he
    go_enter Tryz.func8, Tryz.ntmps8
    go_wp2_with (first | (go_at_call 22; refine HB0.out.mono ?_; rintro e w1 ⟨rfl, rfl⟩; clear HB0))
    go_ret2
    first | exact ⟨none, ⟨0, rfl⟩, .inl rfl, Below.refl _ _⟩ | exact ⟨none, 0, rfl, .inl rfl, Below.refl _ _⟩
end Go.Proofs.YteojbichibdhjacGreatDoor
