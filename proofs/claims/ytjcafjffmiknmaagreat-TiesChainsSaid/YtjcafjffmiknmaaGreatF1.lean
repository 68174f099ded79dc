/- Layer 4: the specification's walk, CheckChain and CheckWhy. -/
import Derived.Test.YtjcafjffmiknmaaGreatF0
namespace Go.Proofs.YtjcafjffmiknmaaGreat
set_option linter.unusedSimpArgs false
set_option linter.unusedVariables false
open Go Go.RowKit

/-- How many cuts a walk has; -1 if it is none. -/
def walkF (ts : List TieD) (l : List Int) (x y : Int) : Int := match leadF ts l (x, 0) with
  | some (v, c) => if v = y then c else -1
  | none => -1
def zvT : Value := .agg #[.int .i64 0, .int .i64 0, .int .i64 0, .int .i64 0, .int .i64 0]
theorem zero_t : ∀ w, (zeroValue 43).run Tryz.prog w = .ok zvT w := fun w => by simp [go_sem, zvT]
theorem lead_cuts_le {ts : List TieD} : ∀ {l : List Int} {x c y d : Int}, leadF ts l (x, c) = some (y, d) → d ≤ c + l.length
  | [], x, c, y, d, h => by
    have h : some (x, c) = some (y, d) := h
    injection h with h; injection h with h1 h2
    simp; omega
  | i :: l, x, c, y, d, h => by
    obtain ⟨⟨z, f⟩, h1, h2⟩ := lead_cons_some h
    obtain ⟨h0, t, ht, rfl, _⟩ := step_iff.1 h1
    have := lead_cuts_le h2
    have := cutI_le t
    simp only [List.length_cons]; omega
set_option maxRecDepth 100000 in
set_option maxHeartbeats 8000000 in
theorem rWalk_any (k : Nat) (a : Option Addr) (cap cq : Nat) (ts : List TieD) (r : Option Addr) (l : List Int) (x y : Int) (w : World) (hk : k ≤ 32) (hl : ts.length ≤ 512) (hl2 : l.length ≤ 1000) (hx : 0 ≤ x ∧ x < k) (hv : ∀ t ∈ ts, tieB t k = true) (hs : TiesAt w a ts) (hr : IntsAt w r l) :
    Calls Tryz.prog 39 #[gV k a ts.length cap, .int .i64 x, .int .i64 y, .slice r l.length cq] w fun e w' => e = .returned (.int .i64 (walkF ts l x y)) ∧ Below w.heap.size w w' := by
  have HS := Lib.hid hs
  have HR := Lib.hid hr
  have HV := Lib.hid hv
  have HX := Lib.hid hx
  obtain ⟨m, hm⟩ : ∃ m, m = ts.length := ⟨_, rfl⟩
  have HM := Lib.hid hm
  obtain ⟨q, hq⟩ : ∃ q, q = l.length := ⟨_, rfl⟩
  have HQ := Lib.hid hq
  rw [← hm] at hl ⊢
  rw [← hq] at hl2 ⊢
  obtain ⟨E, hE⟩ : ∃ E : Int, E = walkF ts l x y := ⟨_, rfl⟩
  rw [← hE]
  have HE := Lib.hid hE
  have HM5 : Hid (m ≤ 100000) := by rw [Hid]; omega
  have FB := Lib.hid (FA.new w [.int .i64 k, .slice a m cap])
  clear hs hr hv hm hq hE hx
  simp only [gV]
  go_enter Tryz.func39, Tryz.ntmps39
  have HI0 : Hid (leadF ts (l.take 0) (x, 0) = some (x, 0)) := rfl
  go_wp2_with fail
  go_loopg [9, 10, 11, 12] q (fun gk t9 t10 t11 t12 wr => ∃ (j : Nat) (v c : Int), j + gk = q ∧ t9 = .int .i64 c ∧ t10 = .int .i64 v ∧ t11 = .int .i64 j ∧ Hid (leadF ts (l.take j) (x, 0) = some (v, c)) ∧ Hid (FA w wr [.int .i64 k, .slice a m cap]))
  case atStart => exact ⟨0, x, 0, by omega, rfl, rfl, rfl, HI0, FB⟩
  case round =>
    clear HI0 FB
    obtain ⟨j, v, c, hjg, rfl, rfl, rfl, HI, FB⟩ := hrel
    by_cases hlt : j < q
    · have hjl : j < l.length := by rw [← HQ.out]; exact hlt
      have hvk := lead_in HV.out HX.out HI.out
      have hc0 := lead_cuts HI.out
      have hc1 := lead_cuts_le HI.out
      rw [List.length_take] at hc1
      have hc2 : c < 2000 := by omega
      obtain ⟨rb, ro, rfl, hrb, x0⟩ := (HR.out.below FB.out.2).at hjl
      have hstep := leadF_step (ts := ts) (p := (x, 0)) hjl
      rw [HI.out] at hstep
      simp only [Option.bind_some] at hstep
      obtain ⟨i, hi⟩ : ∃ i, i = l[j] := ⟨_, rfl⟩
      rw [← hi] at x0 hstep
      clear hi
      have HPA := Lib.hid x0
      have HRB := Lib.hid hrb
      have HJQ := Lib.hid hlt
      have HOWD : Hid (∀ w1, (clOld wr.drew).C w1 → Below wr.heap.size wr w1) := fun w1 hC => old_end (Below.refl _ _) hC (Nat.le_refl _)
      have HPX : Hid (∀ w1 x y, (clOld wr.drew).C w1 → wr.cell? ⟨rb, x, none⟩ = some y → w1.cell? ⟨rb, x, none⟩ = some y) := fun w1 x y hC h => by rw [Below.cell (HOWD.out w1 hC) (by exact HRB.out)]; exact h
      clear x0 hrb hc1
      rcases Bool.eq_false_or_eq_true (ftB i 0 ((m : Int) - 1)) with hbt | hbt
      · have HBT : Hid (∀ W, Calls Tryz.prog 45 #[.int .i64 i, .int .i64 0, .int .i64 ((m : Int) - 1)] W fun e w' => e = .returned (.bool true) ∧ W = w') := fun W => by rw [← hbt]; exact rBet_any i _ _ W
        unfold ftB at hbt
        simp only [Bool.and_eq_true, decide_eq_true_eq] at hbt
        obtain ⟨ii, rfl⟩ := Int.eq_ofNat_of_zero_le hbt.1
        have him : ii < m := by omega
        have hil : ii < ts.length := by rw [← HM.out]; exact him
        rw [stepF_at hil] at hstep
        obtain ⟨t, ht⟩ : ∃ t, t = ts[ii] := ⟨_, rfl⟩
        have htm : t ∈ ts := by rw [ht]; exact List.getElem_mem hil
        obtain ⟨ga, gan, gb, gbn, _, _⟩ := tieB_in (HV.out t htm)
        have hne := tie_ne (HV.out t htm)
        have hkd := tie_kind (HV.out t htm)
        rw [← ht] at hstep
        have HTE := Lib.hid ht
        clear hbt ht htm
        go_upto_region 6 with (fail)
        refine wp_region_old 10 64 (by kernel_rfl) (by kernel_rfl) (by rfl) ?_
        simp only [List.take_succ_cons, List.take_zero, List.drop_succ_cons, List.drop_zero, List.drop_nil]
        refine chain_move (.slice (some ⟨rb, ro, none⟩) q cq) _ (fun _ _ => Below.refl _ _) rfl rfl (by kernel_rfl) (by kernel_rfl) rfl ?_
        refine chain_move (.int .i64 j) _ (fun _ _ => Below.refl _ _) rfl rfl (by kernel_rfl) (by kernel_rfl) rfl ?_
        refine chain_idx (.pointer (some ⟨rb, ro + j, none⟩)) _ _ _ (.slice (some ⟨rb, ro, none⟩) q cq) (.int .i64 j) (fun _ _ => Below.refl _ _) rfl rfl (by kernel_rfl) (by kernel_rfl) rfl rfl (fun w1 => idx_i64 _ _ _ _ _ HJQ.out w1) ?_
        refine chain_load (.int .i64 (ii : Int)) _ _ _ (fun _ _ => Below.refl _ _) rfl rfl (by kernel_rfl) (by kernel_rfl) rfl (fun w1 hC => load_i64 (HPX.out w1 _ _ hC HPA.out)) ?_
        refine chain_val (.pointer (some ⟨w.heap.size, 1, none⟩)) (fun _ _ => Below.refl _ _) rfl (by intro cs b h; cases h) (by kernel_rfl) (by kernel_rfl) (fun w1 _ => by simp [execOp, evE, lk_cons, lk_nil, slotL, go_sem]) ?_
        refine chain_load (.slice a m cap) _ _ _ (fun _ _ => Below.refl _ _) rfl rfl (by kernel_rfl) (by kernel_rfl) rfl (fun w1 hC => load_slt ((FB.out.1.below (HOWD.out w1 hC)).cell rfl)) ?_
        refine chain_val (.int .i64 m) (fun _ _ => Below.refl _ _) rfl (by intro cs b h; cases h) (by kernel_rfl) (by kernel_rfl) (fun w1 _ => by simp [execOp, evE, lk_cons, lk_nil, slotL, go_sem]) ?_
        refine chain_bin (.int .i64 ((m : Int) - 1)) _ _ _ _ _ (.int .i64 m) (.int .i64 1) (fun _ _ => Below.refl _ _) rfl rfl (by kernel_rfl) (by kernel_rfl) rfl rfl (fun w1 => sub_1 _ _ _ _ HM5.out w1) ?_
        refine chain_call (.bool true) 45 [.int .i64 (ii : Int), .int .i64 0, .int .i64 ((m : Int) - 1)] _ _ (enters_of Tryz.func45 (by kernel_rfl) rfl) rfl rfl rfl (by kernel_rfl) (by kernel_rfl) rfl rfl (fun w1 hC => (HBT.out w1).mono fun e w2 h => ⟨h.1, h.2 ▸ Below.refl _ _⟩) ?_
        refine chain_un (.bool false) _ _ _ (.bool true) (fun _ _ => Below.refl _ _) rfl rfl (by kernel_rfl) (by kernel_rfl) rfl (fun w => un_not _ w) ?_
        refine chain_end (by rfl) ?_
        intro xs w5 hCw5 hrew5
        simp only [layE, List.foldr_cons, List.foldr_nil, List.set_cons_succ, List.set_cons_zero]
        have HY := Lib.hid (HOWD.out w5 hCw5)
        clear hCw5 hrew5 HOWD HPX
        replace FB := Lib.hid (FB.out.below HY.out)
        replace HI := Lib.hid HI.out
        obtain ⟨lb, lo, rfl, hlb, y0, y1, y2, y3, y4⟩ := (HS.out.below FB.out.2).at hil
        rw [← HTE.out] at y0 y1 y2 y3 y4
        have HRC : Hid (w5.cell? ⟨rb, ro + j, none⟩ = some (.int .i64 (ii : Int)) ∧ rb < w5.heap.size) := ⟨by rw [Below.cell HY.out (by exact HRB.out)]; exact HPA.out, Nat.lt_of_lt_of_le HRB.out HY.out.size⟩
        have HLT : Hid (ii < m) := him
        have HX0 : Hid (∀ W, Old w5.drew W → (Instr.loadAt 43 (.pointer (some ⟨lb, lo + ii * 5, none⟩))).run Tryz.prog W = .ok (tieV t) W) := fun W h => load_tie (by rw [Below.cell h (by exact hlb)]; exact y0) (by rw [Below.cell h (by exact hlb)]; exact y1) (by rw [Below.cell h (by exact hlb)]; exact y2) (by rw [Below.cell h (by exact hlb)]; exact y3) (by rw [Below.cell h (by exact hlb)]; exact y4)
        have HOWD : Hid (∀ w1, (clOld w5.drew).C w1 → Below w5.heap.size w5 w1) := fun w1 hC => old_end (Below.refl _ _) hC (Nat.le_refl _)
        clear HTE
        clear HPA HRB HY y0 y1 y2 y3 y4 hlb him hil HBT
        obtain ⟨za, zb, zk, zs, zr⟩ := t
        simp only at ga gan gb gbn hne hkd hstep
        have HTV : Hid (tieV ⟨za, zb, zk, zs, zr⟩ = .agg #[.int .i64 za, .int .i64 zb, .int .i64 zk, .int .i64 zs, .int .i64 zr]) := rfl
        go_upto_region 8 with (fail)
        refine wp_region_old2 (Z := (fun e => if e = 43 then zvT else .bool false)) 9 64 [43] (by kernel_rfl) (by kernel_rfl) (by kernel_rfl) (by kernel_rfl) (by intro e he w; simp only [List.mem_cons, List.not_mem_nil, or_false] at he; rcases he with rfl <;> first | exact zero_t w) (by rfl) ?_
        simp only [List.take_succ_cons, List.take_zero, List.drop_succ_cons, List.drop_zero, List.drop_nil]
        refine chain_val (.pointer (some ⟨w.heap.size, 1, none⟩)) (fun _ _ => Below.refl _ _) rfl (by intro cs b h; cases h) (by kernel_rfl) (by kernel_rfl) (fun w1 _ => by simp [execOp, evE, lk_cons, lk_nil, slotL, go_sem]) ?_
        refine chain_load (.slice (some ⟨lb, lo, none⟩) m cap) _ _ _ (fun _ _ => Below.refl _ _) rfl rfl (by kernel_rfl) (by kernel_rfl) rfl (fun w1 hC => load_slt ((FB.out.1.below (HOWD.out w1 hC)).cell rfl)) ?_
        refine chain_move (.slice (some ⟨rb, ro, none⟩) q cq) _ (fun _ _ => Below.refl _ _) rfl rfl (by kernel_rfl) (by kernel_rfl) rfl ?_
        refine chain_move (.int .i64 j) _ (fun _ _ => Below.refl _ _) rfl rfl (by kernel_rfl) (by kernel_rfl) rfl ?_
        refine chain_idx (.pointer (some ⟨rb, ro + j, none⟩)) _ _ _ (.slice (some ⟨rb, ro, none⟩) q cq) (.int .i64 j) (fun _ _ => Below.refl _ _) rfl rfl (by kernel_rfl) (by kernel_rfl) rfl rfl (fun w1 => idx_i64 _ _ _ _ _ HJQ.out w1) ?_
        refine chain_load (.int .i64 (ii : Int)) _ _ _ (fun _ _ => Below.refl _ _) rfl rfl (by kernel_rfl) (by kernel_rfl) rfl (fun w1 hC => load_i64 (by rw [Below.cell (HOWD.out w1 hC) (by exact HRC.out.2)]; exact HRC.out.1)) ?_
        refine chain_idx (.pointer (some ⟨lb, lo + ii * 5, none⟩)) _ _ _ (.slice (some ⟨lb, lo, none⟩) m cap) (.int .i64 (ii : Int)) (fun _ _ => Below.refl _ _) rfl rfl (by kernel_rfl) (by kernel_rfl) rfl rfl (fun w1 => idx_tie _ _ _ _ _ HLT.out w1) ?_
        refine chain_load (tieV ⟨za, zb, zk, zs, zr⟩) _ _ _ (fun _ _ => Below.refl _ _) rfl rfl (by kernel_rfl) (by kernel_rfl) rfl (fun w1 hC => HX0.out w1 hC) ?_
        refine chain_alloc 43 zvT rfl rfl (by kernel_rfl) (by kernel_rfl) (fun w => zero_t w) ?_
        refine chain_end2 (by rfl) ?_
        intro xs w6 hCw6 hrew6 hNw6
        simp only [layE, List.foldr_cons, List.foldr_nil, List.set_cons_succ, List.set_cons_zero] at hNw6 ⊢
        obtain ⟨p8, hb8⟩ := hrew6 12 ptr_w rfl
        simp only [hb8] at hNw6 ⊢
        obtain ⟨bx8, hx8, hB8, hk8⟩ := hNw6.1 8 _ _ 12 (by decide) (by rfl) (by rfl) rfl rfl rfl
        obtain rfl : p8 = bx8 := by simpa using hx8
        clear hx8
        clear hNw6  hb8
        have hk8' : Blk w6 p8 [.int .i64 0, .int .i64 0, .int .i64 0, .int .i64 0, .int .i64 0] 43 := hk8
        have HZK := Lib.hid hk8'
        have HFB6 := Lib.hid (FB.out.below (HOWD.out w6 hCw6))
        have HP8 : Hid (w.heap.size < p8) := Nat.lt_of_lt_of_le FB.out.1.lt hB8
        have d0 := hk8'.cell (i := 0) rfl
        have d1 := hk8'.cell (i := 1) rfl
        have d2 := hk8'.cell (i := 2) rfl
        have d3 := hk8'.cell (i := 3) rfl
        have d4 := hk8'.cell (i := 4) rfl
        have f0 := hk8'.frozen 0
        have f1 := hk8'.frozen 1
        have f2 := hk8'.frozen 2
        have f3 := hk8'.frozen 3
        have f4 := hk8'.frozen 4
        have hB8' := hB8
        clear hk8 hk8' hrew6 hCw6 hB8 HX0 HRC HOWD FB
        simp only [tieV]
        go_upto_region 9 with (fail)
        refine named (fun V => Hid (Blk V p8 [.int .i64 za, .int .i64 zb, .int .i64 zk, .int .i64 zs, .int .i64 zr] 43) ∧ Hid (FA w V [.int .i64 k, .slice (some ⟨lb, lo, none⟩) m cap])) ⟨((((HZK.out.set_ 0 _).set_ 1 _).set_ 2 _).set_ 3 _).set_ 4 _, ((((HFB6.out.set_ HP8.out 0 _).set_ HP8.out 1 _).set_ HP8.out 2 _).set_ HP8.out 3 _).set_ HP8.out 4 _⟩ ?_
        clear d0 d1 d2 d3 d4 f0 f1 f2 f3 f4 HZK HFB6
        rintro V ⟨HT6, FB⟩
        have d0 := HT6.out.cell (i := 0) rfl
        have d1 := HT6.out.cell (i := 1) rfl
        have d2 := HT6.out.cell (i := 2) rfl
        have hfin : ∀ z', othF ⟨za, zb, zk, zs, zr⟩ v = (z', true) → Hid (leadF ts (l.take (j + 1)) (x, 0) = some (z', c + cutI ⟨za, zb, zk, zs, zr⟩)) := fun z' h => by rw [Hid, hstep, h]; rfl
        have HFIN := Lib.hid hfin
        have HBADF : Hid (othF ⟨za, zb, zk, zs, zr⟩ v = (0, false) → E = -1) := fun h => by
          rw [h] at hstep
          simp only [Bool.false_eq_true, if_false] at hstep
          rw [HE.out]; unfold walkF; rw [leadF_none hstep]
        clear hstep hfin
        by_cases hva : v = za
        · have u1 : (za != v) = false := by simp [hva]
          have HNX := Lib.hid (HFIN.out zb (by unfold othF; simp [hva]))
          have HNV : Hid (zb = za + zb - v) := by rw [Hid]; omega
          rcases hkd with hkk | hkk
          · have u2 : (zk == 1) = false := by rw [hkk]; rfl
            have hcc : cutI ⟨za, zb, zk, zs, zr⟩ = 0 := by unfold cutI; rw [u2]; rfl
            rw [hcc] at HNX
            clear hkk hcc HFIN HBADF hva
            go_wp2_with fail
            go_roundg (gk - 1)
            case measure => omega
            case rel => exact ⟨j + 1, zb, c, by omega, rfl, by rw [← HNV.out], by simp, by have := HNX.out; rwa [Int.add_zero] at this, FB⟩
          · have u2 : (zk == 1) = true := by rw [hkk]; rfl
            have hcc : cutI ⟨za, zb, zk, zs, zr⟩ = 1 := by unfold cutI; rw [u2]; rfl
            rw [hcc] at HNX
            clear hkk hcc HFIN HBADF hva
            go_wp2_with fail
            go_roundg (gk - 1)
            case measure => omega
            case rel => exact ⟨j + 1, zb, c + 1, by omega, by simp, by rw [← HNV.out], by simp, HNX, FB⟩
        · have u1 : (za != v) = true := by simp; exact fun h => hva h.symm
          by_cases hvb : v = zb
          · have u3 : (zb != v) = false := by simp [hvb]
            have HNX := Lib.hid (HFIN.out za (by unfold othF; rw [if_neg (by simpa using hva), if_pos (by simpa using hvb)]))
            have HNV : Hid (za = za + zb - v) := by rw [Hid]; omega
            rcases hkd with hkk | hkk
            · have u2 : (zk == 1) = false := by rw [hkk]; rfl
              have hcc : cutI ⟨za, zb, zk, zs, zr⟩ = 0 := by unfold cutI; rw [u2]; rfl
              rw [hcc] at HNX
              clear hkk hcc HFIN HBADF hva hvb
              go_wp2_with fail
              go_roundg (gk - 1)
              case measure => omega
              case rel => exact ⟨j + 1, za, c, by omega, rfl, by rw [← HNV.out], by simp, by have := HNX.out; rwa [Int.add_zero] at this, FB⟩
            · have u2 : (zk == 1) = true := by rw [hkk]; rfl
              have hcc : cutI ⟨za, zb, zk, zs, zr⟩ = 1 := by unfold cutI; rw [u2]; rfl
              rw [hcc] at HNX
              clear hkk hcc HFIN HBADF hva hvb
              go_wp2_with fail
              go_roundg (gk - 1)
              case measure => omega
              case rel => exact ⟨j + 1, za, c + 1, by omega, by simp, by rw [← HNV.out], by simp, HNX, FB⟩
          · have u3 : (zb != v) = true := by simp; exact fun h => hvb h.symm
            have HBD := Lib.hid (HBADF.out (by unfold othF; rw [if_neg (by simpa using hva), if_neg (by simpa using hvb)]))
            clear HFIN HBADF hva hvb hkd
            go_wp2_with fail
            go_ret
            exact ⟨by rw [HBD.out]; rfl, FB.out.2⟩
      · have HBT : Hid (∀ W, Calls Tryz.prog 45 #[.int .i64 i, .int .i64 0, .int .i64 ((m : Int) - 1)] W fun e w' => e = .returned (.bool false) ∧ W = w') := fun W => by rw [← hbt]; exact rBet_any i _ _ W
        have HBD : Hid (E = -1) := by
          rw [stepF_bad (by rw [← HM.out]; exact hbt)] at hstep
          rw [Hid, HE.out]; unfold walkF; rw [leadF_none hstep]
        clear hstep hbt hvk hc0 hc2
        go_upto_region 6 with (fail)
        refine wp_region_old 10 64 (by kernel_rfl) (by kernel_rfl) (by rfl) ?_
        simp only [List.take_succ_cons, List.take_zero, List.drop_succ_cons, List.drop_zero, List.drop_nil]
        refine chain_move (.slice (some ⟨rb, ro, none⟩) q cq) _ (fun _ _ => Below.refl _ _) rfl rfl (by kernel_rfl) (by kernel_rfl) rfl ?_
        refine chain_move (.int .i64 j) _ (fun _ _ => Below.refl _ _) rfl rfl (by kernel_rfl) (by kernel_rfl) rfl ?_
        refine chain_idx (.pointer (some ⟨rb, ro + j, none⟩)) _ _ _ (.slice (some ⟨rb, ro, none⟩) q cq) (.int .i64 j) (fun _ _ => Below.refl _ _) rfl rfl (by kernel_rfl) (by kernel_rfl) rfl rfl (fun w1 => idx_i64 _ _ _ _ _ HJQ.out w1) ?_
        refine chain_load (.int .i64 i) _ _ _ (fun _ _ => Below.refl _ _) rfl rfl (by kernel_rfl) (by kernel_rfl) rfl (fun w1 hC => load_i64 (HPX.out w1 _ _ hC HPA.out)) ?_
        refine chain_val (.pointer (some ⟨w.heap.size, 1, none⟩)) (fun _ _ => Below.refl _ _) rfl (by intro cs b h; cases h) (by kernel_rfl) (by kernel_rfl) (fun w1 _ => by simp [execOp, evE, lk_cons, lk_nil, slotL, go_sem]) ?_
        refine chain_load (.slice a m cap) _ _ _ (fun _ _ => Below.refl _ _) rfl rfl (by kernel_rfl) (by kernel_rfl) rfl (fun w1 hC => load_slt ((FB.out.1.below (HOWD.out w1 hC)).cell rfl)) ?_
        refine chain_val (.int .i64 m) (fun _ _ => Below.refl _ _) rfl (by intro cs b h; cases h) (by kernel_rfl) (by kernel_rfl) (fun w1 _ => by simp [execOp, evE, lk_cons, lk_nil, slotL, go_sem]) ?_
        refine chain_bin (.int .i64 ((m : Int) - 1)) _ _ _ _ _ (.int .i64 m) (.int .i64 1) (fun _ _ => Below.refl _ _) rfl rfl (by kernel_rfl) (by kernel_rfl) rfl rfl (fun w1 => sub_1 _ _ _ _ HM5.out w1) ?_
        refine chain_call (.bool false) 45 [.int .i64 i, .int .i64 0, .int .i64 ((m : Int) - 1)] _ _ (enters_of Tryz.func45 (by kernel_rfl) rfl) rfl rfl rfl (by kernel_rfl) (by kernel_rfl) rfl rfl (fun w1 hC => (HBT.out w1).mono fun e w2 h => ⟨h.1, h.2 ▸ Below.refl _ _⟩) ?_
        refine chain_un (.bool true) _ _ _ (.bool false) (fun _ _ => Below.refl _ _) rfl rfl (by kernel_rfl) (by kernel_rfl) rfl (fun w => un_not _ w) ?_
        refine chain_end (by rfl) ?_
        intro xs w5 hCw5 hrew5
        simp only [layE, List.foldr_cons, List.foldr_nil, List.set_cons_succ, List.set_cons_zero]
        have HY := Lib.hid (HOWD.out w5 hCw5)
        clear hCw5 hrew5 HOWD HPX
        go_wp2_with fail
        go_ret
        exact ⟨by rw [HBD.out]; rfl, FB.out.2.trans (HY.out.mono FB.out.2.size)⟩
    · have e : q = j := by omega
      subst e
      have hts : l.take q = l := List.take_of_length_le (by rw [← HQ.out]; omega)
      have hI := HI.out
      rw [hts] at hI
      have HW : Hid (E = if v = y then c else -1) := by rw [Hid, HE.out]; unfold walkF; rw [hI]
      clear hts hI HI
      by_cases hvy : v = y
      · have t1 : (v != y) = false := by simp [hvy]
        have HW2 : Hid (E = c) := by rw [Hid, HW.out, if_pos hvy]
        clear hvy HW
        go_wp2_with fail
        go_ret
        exact ⟨by rw [HW2.out]; rfl, FB.out.2⟩
      · have t1 : (v != y) = true := by simp [hvy]
        have HW2 : Hid (E = -1) := by rw [Hid, HW.out, if_neg hvy]
        clear hvy HW
        go_wp2_with fail
        go_ret
        exact ⟨by rw [HW2.out]; rfl, FB.out.2⟩
end Go.Proofs.YtjcafjffmiknmaaGreat
