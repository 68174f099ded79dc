/- Layer 6: the specification's normal form. -/
import Derived.Test.YteojbichibdhjacGreatDoorNf
namespace Go.Proofs.YteojbichibdhjacGreatDoor
set_option linter.unusedSimpArgs false
set_option linter.unusedVariables false
open Go Go.RowKit

/-- The number of an element, looked for among the first j. -/
def pK (ls : List Int) (k j : Nat) (x : Int) : Int := if x ∈ ls.take j then ixI (nrmP (ls.take k)).1 x else -1
theorem pK_zero (ls : List Int) (k : Nat) (x : Int) : pK ls k 0 x = -1 := by simp [pK]
theorem pK_hit {ls : List Int} {k j : Nat} {x z : Int} (hk : k ≤ ls.length) (hj : j < k) (hx : ls[j]? = some x) (hz : (intN (nrmP (ls.take k)).2)[j]? = some z) : pK ls k (j + 1) x = z := by
  have hm : x ∈ ls.take (j + 1) := List.mem_of_getElem? (i := j) (by rw [List.getElem?_take, if_pos (by omega)]; exact hx)
  unfold pK
  rw [if_pos hm]
  unfold intN at hz
  rw [List.getElem?_map] at hz
  cases hq : (nrmP (ls.take k)).2[j]? with
  | none => rw [hq] at hz; cases hz
  | some q =>
    rw [hq] at hz
    injection hz with hz
    rw [← hz]
    exact nrm_seen (l := ls.take k) (k := j) (by rw [List.getElem?_take, if_pos hj]; exact hx) hq
theorem pK_miss {ls : List Int} {k j : Nat} {x y : Int} (hx : ls[j]? = some y) (hne : y ≠ x) : pK ls k (j + 1) x = pK ls k j x := by
  have hjl := (List.getElem?_eq_some_iff.1 hx).1
  have e : (x ∈ ls.take (j + 1)) ↔ x ∈ ls.take j := by
    rw [← List.take_append_getElem hjl, List.mem_append, List.mem_singleton]
    have : ls[j] = y := (List.getElem?_eq_some_iff.1 hx).2
    rw [this]
    exact ⟨fun h => h.elim id fun h => absurd h.symm hne, .inl⟩
  unfold pK
  by_cases h : x ∈ ls.take j
  · rw [if_pos h, if_pos (e.2 h)]
  · rw [if_neg h, if_neg (fun hh => h (e.1 hh))]
theorem pK_end (ls : List Int) (k : Nat) (x : Int) : pK ls k k x = ixI (nrmP (ls.take k)).1 x := by
  unfold pK
  by_cases h : x ∈ ls.take k
  · rw [if_pos h]
  · rw [if_neg h, nrm_unseen h]
theorem eql_i64 (t : TypeId) (x y : Operand) (a b : Int) (p : Bool) (hp : p = decide (a = b)) (w : World) : (do eqGuard .eql t x y (.int .i64 a) (.int .i64 b); binOp .eql t (.int .i64 a) (.int .i64 b) : Sem Value).run Tryz.prog w = .ok (.bool p) w := by
  subst hp
  by_cases h : a = b
  · subst h; simp [go_sem]
  · have h2 : (a == b) = false := by rw [beq_eq_false_iff_ne]; exact h
    simp [go_sem, h, h2]
/-- The first k numbers, in memory. -/
structure RS (w : World) (ls : List Int) (k : Nat) (tf : Value) (wr : World) : Prop where
  own : wr.ownsRow w.heap.size 3 1 tf k (ivL (intN (nrmP (ls.take k)).2))
  old : Below w.heap.size w wr
theorem RS.below {w wr wx : World} {ls : List Int} {k : Nat} {tf : Value} (h : RS w ls k tf wr) (hb : Below wr.heap.size wr wx) : RS w ls k tf wx := by
  refine ⟨⟨h.own.1, h.own.2.imp id fun ⟨g, cap, cur, h1, h2, h3, h4⟩ => ⟨g, cap, cur, h1, h2, (hb.block g (Array.getElem?_eq_some_iff.1 h3).1).trans h3, h4⟩⟩, h.old.trans (hb.mono h.old.size)⟩
theorem RS.add {w wr w6 : World} {ls : List Int} {k q : Nat} {tf v2 : Value} (h : RS w ls k tf wr) (hk : (nrmP (ls.take (k + 1))).2 = (nrmP (ls.take k)).2 ++ [q])
    (hO : w6.ownsRow w.heap.size 3 1 v2 (k + 1) (ivL (intN (nrmP (ls.take k)).2) ++ [.int .i64 (q : Int)])) (hg : (wr.alloc (.cells #[.int .i64 (q : Int)] 3)).grownBy w6 tf.ownBlock) : RS w ls (k + 1) v2 w6 := by
  refine ⟨?_, (h.old.alloc h.old.size _).grown hg (by have := h.old.size; simp; omega) (fun q hq => (World.ownsRow.lt h.own q hq).1)⟩
  rw [hk, intN_snoc, ivL_snoc]
  exact hO
set_option maxRecDepth 100000 in
set_option maxHeartbeats 2000000 in
theorem rnormal_any (a : Option Addr) (cap : Nat) (ls : List Int) (w : World) (hl : ls.length ≤ 1000) (hs : IntsAt w a ls) :
    Calls Tryz.prog 23 #[.slice a ls.length cap] w fun e w' => ∃ r c, e = .returned (.slice r ls.length c) ∧ IntsAt w' r (intN (nrmP ls).2) ∧ Below w.heap.size w w' := by
  have HS := Lib.hid hs
  obtain ⟨n, hn⟩ : ∃ n, n = ls.length := ⟨_, rfl⟩
  rw [← hn] at hl ⊢
  have HN := Lib.hid hn
  clear hs hn
  obtain ⟨i0, hi0, hz0, hz1, hz2⟩ := info_parts infoInt
  go_enter Tryz.func23, Tryz.ntmps23
  go_wp2_with fail
  go_loopw [3, 4, 5] (fun t3 t4 t5 wr => ∃ k : Nat, k ≤ n ∧ t5 = .int .i64 k ∧ t4 = .int .i64 ((nrmP (ls.take k)).1.length : Nat) ∧ Hid (RS w ls k t3 wr)) (fun _ _ t5 _ => n - (intOf t5).toNat)
  case atStart => exact ⟨0, by omega, rfl, rfl, World.ownsRow_nil _ _ _ _, Below.refl _ _⟩
  case round =>
    obtain ⟨k, hk, rfl, rfl, H⟩ := hrel
    obtain ⟨fa, fc, rfl, hkG, hfi⟩ := own_ints H.out.own
    have hF : (nrmP (ls.take k)).1.length ≤ k := by have := (nrm_inv (ls.take k)).flen; rw [List.length_take] at this; omega
    rw [← hkG] at H ⊢
    obtain ⟨m, hm⟩ : ∃ m, m = (nrmP (ls.take k)).1.length := ⟨_, rfl⟩
    rw [← hm] at hF ⊢
    have HM := Lib.hid hm
    have HKG := Lib.hid hkG
    clear hm hfi hkG
    by_cases hlt : k < n
    · have hkl : k < ls.length := by rw [← HN.out]; exact hlt
      have HST := Lib.hid (nrmP_step ls k hkl)
      have HXK := Lib.hid (List.getElem?_eq_getElem hkl)
      obtain ⟨x, hx⟩ : ∃ x, x = ls[k] := ⟨_, rfl⟩
      rw [← hx] at HST HXK
      clear hx hkl
      have t1 : decide (k < n) = true := decide_eq_true hlt
      go_wp2_with fail
      go_loopw [6, 7] (fun t6 t7 wx => ∃ j : Nat, j ≤ k ∧ t7 = .int .i64 j ∧ t6 = .int .i64 (pK ls k j x) ∧ Hid (RS w ls k (.slice fa k fc) wx)) (fun _ t7 _ => k - (intOf t7).toNat)
      case atStart => exact ⟨0, by omega, rfl, by rw [pK_zero], H.out⟩
      case round =>
        obtain ⟨j, hj, rfl, rfl, H⟩ := hrel
        by_cases hjk : j < k
        · have hjl : j < ls.length := by rw [← HN.out]; omega
          have hkl : k < ls.length := by rw [← HN.out]; omega
          obtain ⟨lb, lo, rfl, hlb, cj⟩ := (HS.out.below H.out.old).at hjl
          obtain ⟨lb', lo', he, _, ck⟩ := (HS.out.below H.out.old).at hkl
          simp only [Option.some.injEq, Addr.mk.injEq, and_true] at he
          obtain ⟨rfl, rfl⟩ := he
          have hxk : ls[k] = x := by have := HXK.out; rw [List.getElem?_eq_getElem hkl] at this; injection this
          rw [hxk] at ck
          have HYJ := Lib.hid (List.getElem?_eq_getElem hjl)
          obtain ⟨y, hy⟩ : ∃ y, y = ls[j] := ⟨_, rfl⟩
          rw [← hy] at cj HYJ
          have HC : Hid (∀ W, Old wr.drew W → W.cell? ⟨lb, lo + j, none⟩ = some (.int .i64 y) ∧ W.cell? ⟨lb, lo + k, none⟩ = some (.int .i64 x)) := fun W h => ⟨by rw [Below.cell h (by exact hlb)]; exact cj, by rw [Below.cell h (by exact hlb)]; exact ck⟩
          obtain ⟨P, hP⟩ : ∃ P, P = pK ls k j x := ⟨_, rfl⟩
          have HP := Lib.hid hP
          rw [← hP]
          clear hy hjl hkl cj ck hlb hxk hP
          have QJ : Hid (j < k ∧ k < n) := ⟨hjk, hlt⟩
          obtain ⟨p, hp⟩ : ∃ p, p = decide (y = x) := ⟨_, rfl⟩
          have HPP := Lib.hid hp
          clear hp
          have t2 : decide (j < k) = true := decide_eq_true hjk
          go_upto_region 10 with (fail)
          refine wp_region_old 9 42 (by kernel_rfl) (by kernel_rfl) (by rfl) ?_
          simp only [List.take_succ_cons, List.take_zero, List.drop_succ_cons, List.drop_zero, List.drop_nil]
          refine chain_move (.slice (some ⟨lb, lo, none⟩) n cap) _ (fun _ _ => Below.refl _ _) rfl rfl (by kernel_rfl) (by kernel_rfl) rfl ?_
          refine chain_move (.int .i64 j) _ (fun _ _ => Below.refl _ _) rfl rfl (by kernel_rfl) (by kernel_rfl) rfl ?_
          refine chain_idx (.pointer (some ⟨lb, lo + j, none⟩)) _ _ _ (.slice (some ⟨lb, lo, none⟩) n cap) (.int .i64 j) (fun _ _ => Below.refl _ _) rfl rfl (by kernel_rfl) (by kernel_rfl) rfl rfl (fun w1 => idx_i64 _ _ _ _ _ (by have := QJ.out; omega) w1) ?_
          refine chain_load (.int .i64 y) _ _ _ (fun _ _ => Below.refl _ _) rfl rfl (by kernel_rfl) (by kernel_rfl) rfl (fun w1 hC => load_i64 (HC.out _ hC).1) ?_
          refine chain_move (.slice (some ⟨lb, lo, none⟩) n cap) _ (fun _ _ => Below.refl _ _) rfl rfl (by kernel_rfl) (by kernel_rfl) rfl ?_
          refine chain_move (.int .i64 k) _ (fun _ _ => Below.refl _ _) rfl rfl (by kernel_rfl) (by kernel_rfl) rfl ?_
          refine chain_idx (.pointer (some ⟨lb, lo + k, none⟩)) _ _ _ (.slice (some ⟨lb, lo, none⟩) n cap) (.int .i64 k) (fun _ _ => Below.refl _ _) rfl rfl (by kernel_rfl) (by kernel_rfl) rfl rfl (fun w1 => idx_i64 _ _ _ _ _ (by have := QJ.out; omega) w1) ?_
          refine chain_load (.int .i64 x) _ _ _ (fun _ _ => Below.refl _ _) rfl rfl (by kernel_rfl) (by kernel_rfl) rfl (fun w1 hC => load_i64 (HC.out _ hC).2) ?_
          refine chain_bin (.bool p) _ _ _ _ _ (.int .i64 y) (.int .i64 x) (fun _ _ => Below.refl _ _) rfl rfl (by kernel_rfl) (by kernel_rfl) rfl rfl (fun w1 => eql_i64 _ _ _ _ _ _ HPP.out w1) ?_
          refine chain_end (by rfl) ?_
          intro xs w6 hCw6 hrew6
          simp only [layE, List.foldr_cons, List.foldr_nil, List.set_cons_succ, List.set_cons_zero]
          have H6 := Lib.hid (H.out.below ((Below.refl _ wr).drew.trans hCw6))
          clear H HC hCw6 hrew6
          cases p with
          | false =>
            have hne : y ≠ x := by simpa using HPP.out
            have HN1 : Hid (pK ls k (j + 1) x = P) := by rw [Hid, pK_miss HYJ.out hne, HP.out]
            clear hne
            go_wp2_with fail
            exact ⟨⟨j + 1, by omega, by simp, by rw [HN1.out], H6.out⟩, by simp [intOf]; omega⟩
          | true =>
            have hyx : y = x := by simpa using HPP.out
            obtain ⟨fa', fc', he, hkk, hfi⟩ := own_ints H6.out.own
            clear hkk
            rw [← HKG.out] at he
            simp only [Value.slice.injEq, true_and] at he
            obtain ⟨rfl, rfl⟩ := he
            have hjG : j < (intN (nrmP (ls.take k)).2).length := by rw [← HKG.out]; exact hjk
            obtain ⟨gb, go, rfl, hgb, cg⟩ := hfi.at hjG
            have HZ := Lib.hid (List.getElem?_eq_getElem hjG)
            obtain ⟨z, hz⟩ : ∃ z, z = (intN (nrmP (ls.take k)).2)[j] := ⟨_, rfl⟩
            rw [← hz] at cg HZ
            have HN1 : Hid (pK ls k (j + 1) x = z) := pK_hit (by rw [← HN.out]; omega) hjk (by rw [HYJ.out, hyx]) HZ.out
            clear hyx hfi hjG hz hgb
            go_wp2_with fail
            exact ⟨⟨j + 1, by omega, by simp, by rw [HN1.out], H6.out⟩, by simp [intOf]; omega⟩
        · have e : j = k := by omega
          subst e
          rw [pK_end]
          obtain ⟨F, hF0⟩ : ∃ F, F = (nrmP (ls.take j)).1 := ⟨_, rfl⟩
          rw [← hF0] at HM ⊢
          have HF := Lib.hid hF0
          clear hF0
          have t2 : decide (j < j) = false := decide_eq_false (by omega)
          cases hix : ixF F x 0 with
          | some q =>
            have HJ : Hid (ixI F x = (q : Int)) := by rw [Hid, ixI, hix]
            have H1 : Hid (m = (nrmP (ls.take (j + 1))).1.length) := by rw [Hid, HST.out, nrmS, ← HF.out, hix]; exact HM.out
            have H2 : Hid ((nrmP (ls.take (j + 1))).2 = (nrmP (ls.take j)).2 ++ [q]) := by rw [Hid, HST.out, nrmS, ← HF.out, hix]
            rw [HJ.out]
            clear hix HST
            go_wp2_with (at_builtin; go_loud (refine wpList_append_own _ rfl _ _ 22 rfl w.heap.size 3 i0 (.int .i64 0) 1 8 Tryz.underlying22 hi0 hz0 hz1 hz2 rfl (by decide) (.slice fa j fc) j (ivL (intN (nrmP (ls.take j)).2)) rfl (H.out.own.alloc _) ⟨wr.heap.size, 0, none⟩ 1 1 [.int .i64 q] rfl rfl (cell_one_new _ _ _) (by simp [Value.oneCell']) (by simp only [maxLen]; omega) (by omega) (by have := H.out.old.size; simp; omega) ?_; intro v2 w6 hown' hgrow _; have K6 := Lib.hid (H.out.add H2.out hown' hgrow); clear hown' hgrow))
            exact ⟨⟨j + 1, by omega, by simp, by rw [← H1.out], K6.out⟩, by simp [intOf]; omega⟩
          | none =>
            have HJ : Hid (ixI F x = -1) := by rw [Hid, ixI, hix]
            have H1 : Hid (m + 1 = (nrmP (ls.take (j + 1))).1.length) := by rw [Hid, HST.out, nrmS, ← HF.out, hix, HM.out]; simp
            have H2 : Hid ((nrmP (ls.take (j + 1))).2 = (nrmP (ls.take j)).2 ++ [m]) := by rw [Hid, HST.out, nrmS, ← HF.out, hix, HM.out]
            rw [HJ.out]
            clear hix HST
            go_wp2_with (at_builtin; go_loud (refine wpList_append_own _ rfl _ _ 22 rfl w.heap.size 3 i0 (.int .i64 0) 1 8 Tryz.underlying22 hi0 hz0 hz1 hz2 rfl (by decide) (.slice fa j fc) j (ivL (intN (nrmP (ls.take j)).2)) rfl (H.out.own.alloc _) ⟨wr.heap.size, 0, none⟩ 1 1 [.int .i64 m] rfl rfl (cell_one_new _ _ _) (by simp [Value.oneCell']) (by simp only [maxLen]; omega) (by omega) (by have := H.out.old.size; simp; omega) ?_; intro v2 w6 hown' hgrow _; have K6 := Lib.hid (H.out.add H2.out hown' hgrow); clear hown' hgrow))
            exact ⟨⟨j + 1, by omega, by simp, by rw [← H1.out]; simp, K6.out⟩, by simp [intOf]; omega⟩
    · have e : k = n := by omega
      subst e
      have HI : Hid (IntsAt wr fa (intN (nrmP ls).2)) := by
        obtain ⟨fa', fc', he, _, hfi⟩ := own_ints H.out.own
        simp only [Value.slice.injEq] at he
        obtain ⟨rfl, _, rfl⟩ := he
        rw [List.take_of_length_le (by rw [← HN.out]; omega)] at hfi
        exact hfi
      have t1 : decide (k < k) = false := decide_eq_false hlt
      go_wp2_with fail
      go_ret
      exact ⟨_, _, rfl, HI.out, H.out.old⟩
end Go.Proofs.YteojbichibdhjacGreatDoor
