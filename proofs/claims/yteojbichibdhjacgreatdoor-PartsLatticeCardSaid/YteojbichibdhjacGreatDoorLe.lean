/- Layer 6: checkBoth, meet, Finer, Meet of the program. -/
import Derived.Test.YteojbichibdhjacGreatDoorLd
namespace Go.Proofs.YteojbichibdhjacGreatDoor
set_option linter.unusedSimpArgs false
set_option linter.unusedVariables false
open Go Go.RowKit

def errB (la lb : List Int) : Int := if okP la && okP lb && decide (la.length = lb.length) then 0 else 51
theorem errB_split (la lb : List Int) : (errB la lb = 0 ∧ okP la = true ∧ okP lb = true ∧ la.length = lb.length) ∨ (errB la lb = 51 ∧ (okP la = false ∨ (okP la = true ∧ okP lb = false) ∨ (okP la = true ∧ okP lb = true ∧ la.length ≠ lb.length))) := by
  unfold errB
  cases okP la <;> cases okP lb <;> by_cases h : la.length = lb.length <;> simp [h]
theorem okP_small {ls : List Int} (h : okP ls = true) : smallL ls := fun i x hx => by
  obtain ⟨h1, h2, m, hm⟩ := okP_scn h
  have := (scn_mem _ _ hm x).1 (List.mem_of_getElem? hx)
  have := scn_low _ _ hm
  omega
theorem okP_nrm {ls : List Int} (h : okP ls = true) : 1 ≤ ls.length ∧ ls.length ≤ 32 ∧ intN (nrmP ls).2 = ls := by
  unfold okP fromTo at h
  simp only [Bool.and_eq_true, decide_eq_true_eq] at h
  exact ⟨by omega, by omega, h.2.symm⟩
set_option maxRecDepth 100000 in
set_option maxHeartbeats 2000000 in
theorem both_any (a b : Option Addr) (ca cb : Nat) (la lb : List Int) (w : World) (hla : la.length ≤ 1000) (hlb : lb.length ≤ 1000) (hs : IntsAt w a la) (ht : IntsAt w b lb) :
    Calls Tryz.prog 20 #[.slice a la.length ca, .slice b lb.length cb] w fun e w' => e = .returned (.int .i64 (errB la lb)) ∧ Below w.heap.size w w' := by
  have HA := Lib.hid (isPart_any a ca la w hla hs)
  have HBB : Hid (∀ W, Below w.heap.size w W → Calls Tryz.prog 40 #[.slice b lb.length cb] W fun e w' => e = .returned (.bool (okP lb)) ∧ Below W.heap.size W w') := fun W hb => isPart_any b cb lb W hlb (ht.below hb)
  have hsp := errB_split la lb
  obtain ⟨E, hE⟩ : ∃ E, E = errB la lb := ⟨_, rfl⟩
  rw [← hE] at hsp ⊢
  obtain ⟨m, hm⟩ : ∃ m, m = la.length := ⟨_, rfl⟩
  obtain ⟨n, hn⟩ : ∃ n, n = lb.length := ⟨_, rfl⟩
  rw [← hm] at HA hsp hla ⊢
  rw [← hn] at HBB hsp hlb ⊢
  clear hs ht hm hn hE
  rcases hsp with ⟨rfl, h1, h2, h3⟩ | ⟨rfl, h1 | ⟨h1, h2⟩ | ⟨h1, h2, h3⟩⟩
  · rw [h1] at HA
    rw [h2] at HBB
    subst h3
    clear h1 h2
    go_enter Tryz.func20, Tryz.ntmps20
    go_wp2_with (first | (go_at_call 40; first | (refine HA.out.mono ?_; rintro e w1 ⟨rfl, hb1⟩; clear HA; have HB1 := Lib.hid hb1; clear hb1) | (refine (HBB.out _ HB1.out).mono ?_; rintro e w2 ⟨rfl, hb2⟩; have HB2 := Lib.hid (HB1.out.trans (hb2.mono HB1.out.size)); clear hb2)))
    go_ret
    exact ⟨rfl, HB2.out⟩
  · rw [h1] at HA
    clear h1 HBB
    go_enter Tryz.func20, Tryz.ntmps20
    go_wp2_with (first | (go_at_call 40; refine HA.out.mono ?_; rintro e w1 ⟨rfl, hb1⟩; clear HA; have HB1 := Lib.hid hb1; clear hb1))
    go_ret
    exact ⟨rfl, HB1.out⟩
  · rw [h1] at HA
    rw [h2] at HBB
    clear h1 h2
    go_enter Tryz.func20, Tryz.ntmps20
    go_wp2_with (first | (go_at_call 40; first | (refine HA.out.mono ?_; rintro e w1 ⟨rfl, hb1⟩; clear HA; have HB1 := Lib.hid hb1; clear hb1) | (refine (HBB.out _ HB1.out).mono ?_; rintro e w2 ⟨rfl, hb2⟩; have HB2 := Lib.hid (HB1.out.trans (hb2.mono HB1.out.size)); clear hb2)))
    go_ret
    exact ⟨rfl, HB2.out⟩
  · rw [h1] at HA
    rw [h2] at HBB
    clear h1 h2
    have t1 : (m == n) = false := by rw [beq_eq_false_iff_ne]; exact h3
    have t2 : ¬ ((m : Int) = (n : Int)) := by omega
    go_enter Tryz.func20, Tryz.ntmps20
    go_wp2_with (first | (go_at_call 40; first | (refine HA.out.mono ?_; rintro e w1 ⟨rfl, hb1⟩; clear HA; have HB1 := Lib.hid hb1; clear hb1) | (refine (HBB.out _ HB1.out).mono ?_; rintro e w2 ⟨rfl, hb2⟩; have HB2 := Lib.hid (HB1.out.trans (hb2.mono HB1.out.size)); clear hb2)))
    go_ret
    exact ⟨rfl, HB2.out⟩
/-- The pairs, k of them laid. -/
def mkL (C : List Int) (n k : Nat) : List Value := pvL (C.take k) ++ List.replicate ((n - k) * 2) (.int .i64 0)
theorem mkL_pre {C : List Int} {k : Nat} (hk : k ≤ C.length) : (pvL (C.take k)).length = k * 2 := by rw [pvL_len, List.length_take]; omega
theorem mkL_at {C : List Int} {n k : Nat} (hn : n = C.length) (hk : k < n) : (mkL C n k)[k * 2]? = some (.int .i64 0) ∧ (mkL C n k)[k * 2 + 1]? = some (.int .i64 0) := by
  unfold mkL
  have hl := mkL_pre (C := C) (k := k) (by omega)
  rw [List.getElem?_append_right (by omega), List.getElem?_append_right (by omega), hl, Nat.sub_self, show k * 2 + 1 - k * 2 = 1 by omega, show (n - k) * 2 = ((n - (k + 1)) * 2) + 2 by omega]
  exact ⟨rfl, rfl⟩
theorem mkL_set {C : List Int} {n k : Nat} (hn : n = C.length) (hk : k < n) : ((mkL C n k).set (k * 2) (.int .i64 (cA (C[k]'(by omega))))).set (k * 2 + 1) (.int .i64 (cB (C[k]'(by omega)))) = mkL C n (k + 1) := by
  unfold mkL
  have hl := mkL_pre (C := C) (k := k) (by omega)
  rw [List.set_append_right _ _ (by omega), hl, Nat.sub_self, List.set_append_right _ _ (by omega), hl, show k * 2 + 1 - k * 2 = 1 by omega, show (n - k) * 2 = ((n - (k + 1)) * 2) + 1 + 1 by omega, List.replicate_succ, List.replicate_succ, List.set_cons_zero, List.set_cons_succ, List.set_cons_zero,
    ← List.take_append_getElem (show k < C.length by omega), pvL_snoc, List.append_assoc]
  rfl
theorem mkL_end {C : List Int} {n : Nat} (hn : n = C.length) : mkL C n n = pvL C := by
  unfold mkL
  rw [Nat.sub_self, List.take_of_length_le (by omega)]
  simp
theorem made_two (n : Nat) : madeCells #[Value.int .i64 0, .int .i64 0] (n * 2) = (mkL [] n 0).toArray := by
  apply Array.ext_getElem?
  intro i
  have hm : i % 2 = 0 ∨ i % 2 = 1 := by omega
  by_cases hi : i < n * 2
  · rcases hm with h | h <;> simp [madeCells, mkL, pvL, hi, h]
  · simp [madeCells, mkL, pvL, hi]
theorem mkL_zero (C : List Int) (n : Nat) : mkL C n 0 = mkL [] n 0 := by simp [mkL]
theorem Blk.pairs {W : World} {g : Nat} {cs : List Int} {t : TypeId} (h : Blk W g (pvL cs) t) : CdAt W (some ⟨g, 0, none⟩) cs := .inr ⟨g, 0, rfl, h.lt, fun i c hc => by
  rw [Nat.zero_add]; exact ⟨h.cell (pvL_get hc).1, h.cell (pvL_get hc).2⟩⟩
set_option maxRecDepth 100000 in
set_option maxHeartbeats 2000000 in
theorem meet_any (a b : Option Addr) (ca cb n : Nat) (la lb : List Int) (w : World) (hla : la.length = n) (hlb : lb.length = n) (hn : n ≤ 32) (hsm : smallL lb) (hs : IntsAt w a la) (ht : IntsAt w b lb) :
    Calls Tryz.prog 21 #[.slice a n ca, .slice b n cb] w fun e w' => ∃ g, e = .returned (.slice (some ⟨g, 0, none⟩) n n) ∧ IntsAt w' (some ⟨g, 0, none⟩) (intN (nrmP (codeL la lb)).2) ∧ Below w.heap.size w w' := by
  have HS := Lib.hid hs
  have HT := Lib.hid ht
  have HLA := Lib.hid hla
  have HLB := Lib.hid hlb
  have HSM := Lib.hid hsm
  have HCL : Hid (n = (codeL la lb).length) := by rw [Hid, codeL_len (by omega)]; exact hla.symm
  have HNO : Hid (∀ W g, Blk W g (pvL (codeL la lb)) 81 → Calls Tryz.prog 41 #[.slice (some ⟨g, 0, none⟩) n n] W fun e w' => ∃ b, e = .returned (.slice (some ⟨b, 0, none⟩) n n) ∧ IntsAt w' (some ⟨b, 0, none⟩) (intN (nrmP (codeL la lb)).2) ∧ Below W.heap.size W w') := fun W g hW => by
    have := normalP_any (some ⟨g, 0, none⟩) n (codeL la lb) W (by rw [← HCL.out]; omega) hW.pairs
    rw [← HCL.out] at this; exact this
  clear hs ht hla hlb hsm
  obtain ⟨i0, hi0, hz0, hz1, hz2⟩ := info_parts infoP
  have hmk : ∀ w, (Instr.makeSlice 80 (.int .i64 (n : Int)) (.int .i64 (n : Int))).run Tryz.prog w = .ok (.slice (some ⟨w.heap.size, 0, none⟩) n n) (w.alloc (.cells (mkL [] n 0).toArray 81)) := fun w => by
    have hr := run_make (P := Tryz.prog) w 80 81 i0 (.agg #[.int .i64 0, .int .i64 0]) Tryz.underlying80 hi0 hz0 .i64 .i64 n n (by omega) (Int.le_refl _) (by rw [hz2]; omega) (by omega)
    simp only [Int.toNat_natCast, hz1, Value.cells] at hr
    rw [made_two] at hr
    exact hr
  go_enter Tryz.func21, Tryz.ntmps21
  go_wp2_with fail
  go_loopg [12] n (fun gk t12 wr => ∃ k : Nat, k + gk = n ∧ t12 = .int .i64 k ∧ Hid (Blk wr w.heap.size (mkL (codeL la lb) n k) 81) ∧ Hid (Below w.heap.size w wr))
  case atStart => exact ⟨0, by omega, rfl, by rw [mkL_zero]; exact Blk.new w _ _, (Below.refl _ _).alloc (Nat.le_refl _) _⟩
  case round =>
    obtain ⟨k, hkg, rfl, HK, HB⟩ := hrel
    by_cases hlt : k < n
    · have hka : k < la.length := by rw [HLA.out]; exact hlt
      have hkb : k < lb.length := by rw [HLB.out]; exact hlt
      have hkc : k < (codeL la lb).length := by rw [← HCL.out]; exact hlt
      obtain ⟨b1, o1, rfl, h1, c1⟩ := (HS.out.below HB.out).at hka
      obtain ⟨b2, o2, rfl, h2, c2⟩ := (HT.out.below HB.out).at hkb
      have hSET := mkL_set HCL.out hlt
      have hcode : (codeL la lb)[k] = 33 * la[k] + lb[k] := by
        have := codeL_get (List.getElem?_eq_getElem hka) (List.getElem?_eq_getElem hkb)
        rw [List.getElem?_eq_getElem hkc] at this
        injection this
      have hbd := HSM.out k lb[k] (List.getElem?_eq_getElem hkb)
      obtain ⟨c, hc⟩ : ∃ c, c = (codeL la lb)[k] := ⟨_, rfl⟩
      rw [← hc] at hSET hcode
      have ex : la[k] = cA c := by unfold cA; omega
      have ey : lb[k] = cB c := by unfold cB; omega
      rw [ex] at c1
      rw [ey] at c2
      have HC : Hid (∀ W, Old wr.drew W → W.cell? ⟨b1, o1 + k, none⟩ = some (.int .i64 (cA c)) ∧ W.cell? ⟨b2, o2 + k, none⟩ = some (.int .i64 (cB c))) := fun W h => ⟨by rw [Below.cell h (by exact h1)]; exact c1, by rw [Below.cell h (by exact h2)]; exact c2⟩
      have HSET := Lib.hid hSET
      have HLT : Hid (k < n) := hlt
      obtain ⟨g, hg⟩ : ∃ g, g = w.heap.size := ⟨_, rfl⟩
      have HGG := Lib.hid hg
      rw [← hg] at HK ⊢
      clear hka hkb hkc hSET hcode hbd hc ex ey c1 c2 h1 h2 hg
      go_upto_region 5 with (fail)
      refine wp_region_old 12 30 (by kernel_rfl) (by kernel_rfl) (by rfl) ?_
      simp only [List.take_succ_cons, List.take_zero, List.drop_succ_cons, List.drop_zero, List.drop_nil]
      refine chain_move (.slice (some ⟨g, 0, none⟩) n n) _ (fun _ _ => Below.refl _ _) rfl rfl (by kernel_rfl) (by kernel_rfl) rfl ?_
      refine chain_move (.int .i64 k) _ (fun _ _ => Below.refl _ _) rfl rfl (by kernel_rfl) (by kernel_rfl) rfl ?_
      refine chain_move (.slice (some ⟨b1, o1, none⟩) n ca) _ (fun _ _ => Below.refl _ _) rfl rfl (by kernel_rfl) (by kernel_rfl) rfl ?_
      refine chain_move (.int .i64 k) _ (fun _ _ => Below.refl _ _) rfl rfl (by kernel_rfl) (by kernel_rfl) rfl ?_
      refine chain_idx (.pointer (some ⟨b1, o1 + k, none⟩)) _ _ _ (.slice (some ⟨b1, o1, none⟩) n ca) (.int .i64 k) (fun _ _ => Below.refl _ _) rfl rfl (by kernel_rfl) (by kernel_rfl) rfl rfl (fun w1 => idx_i64 _ _ _ _ _ HLT.out w1) ?_
      refine chain_load (.int .i64 (cA c)) _ _ _ (fun _ _ => Below.refl _ _) rfl rfl (by kernel_rfl) (by kernel_rfl) rfl (fun w1 hC => load_i64 (HC.out _ hC).1) ?_
      refine chain_move (.slice (some ⟨b2, o2, none⟩) n cb) _ (fun _ _ => Below.refl _ _) rfl rfl (by kernel_rfl) (by kernel_rfl) rfl ?_
      refine chain_move (.int .i64 k) _ (fun _ _ => Below.refl _ _) rfl rfl (by kernel_rfl) (by kernel_rfl) rfl ?_
      refine chain_idx (.pointer (some ⟨b2, o2 + k, none⟩)) _ _ _ (.slice (some ⟨b2, o2, none⟩) n cb) (.int .i64 k) (fun _ _ => Below.refl _ _) rfl rfl (by kernel_rfl) (by kernel_rfl) rfl rfl (fun w1 => idx_i64 _ _ _ _ _ HLT.out w1) ?_
      refine chain_load (.int .i64 (cB c)) _ _ _ (fun _ _ => Below.refl _ _) rfl rfl (by kernel_rfl) (by kernel_rfl) rfl (fun w1 hC => load_i64 (HC.out _ hC).2) ?_
      refine chain_val (.agg #[.int .i64 (cA c), .int .i64 (cB c)]) (fun _ _ => Below.refl _ _) rfl (by intro cs b h; cases h) (by kernel_rfl) (by kernel_rfl) (fun w1 _ => by simp [execOp, evE, lk_cons, lk_nil, slotL, go_sem]) ?_
      refine chain_idx (.pointer (some ⟨g, 0 + k * 2, none⟩)) _ _ _ (.slice (some ⟨g, 0, none⟩) n n) (.int .i64 k) (fun _ _ => Below.refl _ _) rfl rfl (by kernel_rfl) (by kernel_rfl) rfl rfl (fun w1 => idx_p _ _ _ _ _ HLT.out w1) ?_
      refine chain_end (by rfl) ?_
      intro xs w1 hCw1 hrew1
      simp only [layE, List.foldr_cons, List.foldr_nil, List.set_cons_succ, List.set_cons_zero]
      have HB1 := Lib.hid (old_end HB.out hCw1 HB.out.size)
      have HK1 := Lib.hid (HK.out.below (show Below wr.heap.size wr w1 from old_end (Below.refl _ _) hCw1 (Nat.le_refl _)))
      clear hCw1 hrew1 HC
      have n0 := HK1.out.cell (mkL_at HCL.out hlt).1
      have n1 := HK1.out.cell (mkL_at HCL.out hlt).2
      have f0 := HK1.out.frozen (k * 2)
      have f1 := HK1.out.frozen (k * 2 + 1)
      go_wp2_with fail
      have hgg := HGG.out
      clear HGG
      subst hgg
      go_roundg (gk - 1)
      case measure => omega
      case rel =>
        refine ⟨k + 1, by omega, by simp, ?_, ?_⟩
        · have := (HK1.out.set_ (k * 2) (.int .i64 (cA c))).set_ (k * 2 + 1) (.int .i64 (cB c))
          rw [HSET.out] at this
          exact this
        · exact (HB1.out.setCell (Nat.le_refl _) _).setCell (Nat.le_refl _) _
    · have e : k = n := by omega
      subst e
      have HR := Lib.hid HK.out
      rw [mkL_end HCL.out] at HR
      go_wp2_with (first | (go_at_call 41; refine (HNO.out _ _ HR.out).mono ?_; rintro e w2 ⟨b9, rfl, hi, hb⟩; have HI := Lib.hid hi; have HB2 := Lib.hid (HB.out.trans (hb.mono HB.out.size)); clear hi hb HNO))
      go_ret
      exact ⟨_, rfl, HI.out, HB2.out⟩
end Go.Proofs.YteojbichibdhjacGreatDoor
