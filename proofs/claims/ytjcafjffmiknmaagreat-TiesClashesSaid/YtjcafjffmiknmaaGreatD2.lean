/- Layer 4: the specification's CheckClash. -/
import Derived.Test.YtjcafjffmiknmaaGreatD1
namespace Go.Proofs.YtjcafjffmiknmaaGreat
set_option linter.unusedSimpArgs false
set_option linter.unusedVariables false
open Go Go.RowKit

theorem sub_1 (t : TypeId) (x y : Operand) (i : Nat) (h : i ≤ 100000) (w : World) : (do eqGuard .sub t x y (.int .i64 (i : Int)) (.int .i64 1); binOp .sub t (.int .i64 (i : Int)) (.int .i64 1) : Sem Value).run Tryz.prog w = .ok (.int .i64 ((i : Int) - 1)) w := by
  have hw : IntKind.i64.wrap ((i : Int) - 1) = (i : Int) - 1 := by simp [IntKind.wrap, IntKind.bits, IntKind.signed]; omega
  simp [go_sem, hw]
/-- The index that is left out: none at first. -/
def outE (q e : Nat) : Nat := if e = 0 then q else e - 1
def leaveB (n : Nat) (us : List TieD) (q e : Nat) : Bool := conF n (us.eraseIdx (outE q e)) == (e == 0)
theorem leave_all (n : Nat) (us : List TieD) : (List.range (us.length + 1)).all (leaveB n us us.length) = (conF n us && (List.range us.length).all fun i => !conF n (us.eraseIdx i)) := by
  rw [List.range_succ_eq_map, List.all_cons, List.all_map]
  congr 1
  · unfold leaveB outE
    rw [if_pos rfl, List.eraseIdx_of_length_le (Nat.le_refl _)]
    cases conF n us <;> rfl
  · refine List.all_congr rfl fun i => ?_
    show leaveB n us us.length (i + 1) = _
    unfold leaveB outE
    rw [if_neg (by omega), Nat.add_sub_cancel]
    have e : (i + 1 == 0) = false := by simp
    rw [e]
    cases conF n (us.eraseIdx i) <;> rfl
theorem subF_at {ts : List TieD} : ∀ {l : List Int}, (∀ i ∈ l, 0 ≤ i ∧ i < ts.length) → ∀ {j : Nat} (hj : j < l.length), ∃ t, ts[(l[j]).toNat]? = some t ∧ (subF ts l)[j]? = some t
  | [], _, j, hj => by simp at hj
  | i :: l, h, j, hj => by
    have h1 := h i List.mem_cons_self
    have h2 := List.getElem?_eq_getElem (l := ts) (i := i.toNat) (by omega)
    have e : subF ts (i :: l) = ts[i.toNat] :: subF ts l := by unfold subF; rw [List.filterMap_cons, h2]
    rw [e]
    cases j with
    | zero => exact ⟨_, h2, rfl⟩
    | succ j => exact subF_at (fun k hk => h k (List.mem_cons_of_mem _ hk)) (by simpa using hj)
theorem subF_all {ts : List TieD} {l : List Int} (h : ∀ i ∈ l, 0 ≤ i ∧ i < ts.length) : (subF ts l).length = l.length := by
  induction l with
  | nil => rfl
  | cons i l ih =>
    have h1 := h i List.mem_cons_self
    have h2 := List.getElem?_eq_getElem (l := ts) (i := i.toNat) (by omega)
    have e : subF ts (i :: l) = ts[i.toNat] :: subF ts l := by unfold subF; rw [List.filterMap_cons, h2]
    rw [e, List.length_cons, List.length_cons, ih fun k hk => h k (List.mem_cons_of_mem _ hk)]
/-- What has passed the test lies in the range. -/
theorem incF_in {m : Nat} {l : List Int} : ∀ {j : Nat} {x : Int}, j ≤ l.length → incF m (l.take j) = some x → ∀ i ∈ l.take j, 0 ≤ i ∧ i < m
  | 0, x, _, _ => by intro i hi; simp at hi
  | j + 1, x, hj, h => by
    rw [incF_step (by omega)] at h
    cases hp : incF m (l.take j) with
    | none => rw [hp] at h; cases h
    | some y =>
      have hb := incF_bound (by omega : j ≤ l.length) hp
      have ih := incF_in (by omega : j ≤ l.length) hp
      rw [hp] at h
      simp only [Option.bind_some] at h
      unfold incS ftB at h
      split at h
      · rename_i hc
        simp only [Bool.and_eq_true, decide_eq_true_eq] at hc
        intro i hi
        rw [← List.take_append_getElem (by omega : j < l.length), List.mem_append, List.mem_singleton] at hi
        rcases hi with hi | rfl
        · exact ih i hi
        · omega
      · cases h
set_option maxRecDepth 100000 in
set_option maxHeartbeats 8000000 in
theorem rCheckClash_any (k : Nat) (a : Option Addr) (cap cq : Nat) (ts : List TieD) (r : Option Addr) (l : List Int) (w : World) (hl2 : l.length ≤ 1000) (hok : okG k ts = true) (hs : TiesAt w a ts) (hr : IntsAt w r l) :
    Calls Tryz.prog 18 #[gV k a ts.length cap, .slice r l.length cq] w fun e w' => e = .returned (.int .i64 (if clashF k ts l then 0 else 42)) ∧ Below w.heap.size w w' := by
  obtain ⟨k', hk', hk1, hk2, hl, hv⟩ := okG_parts hok
  obtain rfl : k = k' := by omega
  clear hk'
  have HC : Hid (∀ W, Below w.heap.size w W → Calls Tryz.prog 20 #[gV k a ts.length cap] W fun e w' => e = .returned (.int .i64 0) ∧ Below W.heap.size W w') := fun W hb => by
    have h := rCheck_any k a cap ts W (by omega) (hs.below hb)
    rw [show errG k ts = 0 from by unfold errG; rw [hok]; rfl] at h; exact h
  have HCO : Hid (∀ W a' c' (us : List TieD), (∀ t ∈ us, t ∈ ts) → us.length ≤ 512 → TiesAt W a' us → Calls Tryz.prog 21 #[.agg #[.int .i64 k, .slice a' us.length c']] W fun e w' => e = .returned (.bool (conF k us)) ∧ Below W.heap.size W w') := fun W a' c' us hm hu h => rClashes_any k a' c' us W hk2 hu (fun t ht => hv t (hm t ht)) h
  have HS := Lib.hid hs
  have HR := Lib.hid hr
  have HV := Lib.hid hv
  obtain ⟨m, hm⟩ : ∃ m, m = ts.length := ⟨_, rfl⟩
  have HM := Lib.hid hm
  obtain ⟨q, hq⟩ : ∃ q, q = l.length := ⟨_, rfl⟩
  have HQ := Lib.hid hq
  rw [← hm] at HC hl ⊢
  rw [← hq] at hl2 ⊢
  obtain ⟨E, hE⟩ : ∃ E : Int, E = if clashF k ts l then 0 else 42 := ⟨_, rfl⟩
  rw [← hE]
  have HE := Lib.hid hE
  have HM5 : Hid (m ≤ 100000) := by rw [Hid]; omega
  clear hE
  have FB := Lib.hid (FA.new w [.int .i64 k, .slice a m cap])
  clear hs hr hv hm hq hok hk1 hk2
  simp only [gV] at HC ⊢
  go_enter Tryz.func18, Tryz.ntmps18
  go_upto_region 3 with (first | (go_at_call 20; go_loud (refine (HC.out _ FB.out.2).mono ?_; rintro e w1 ⟨rfl, hb⟩; clear HC; replace FB := Lib.hid (FB.out.below hb); clear hb)))
  have HI0 : Hid (incF m (l.take 0) = some (-1)) := rfl
  go_wp2_with fail
  go_loopg [5] q (fun gk t5 wr => ∃ (j : Nat) (x : Int), j + gk = q ∧ t5 = .int .i64 j ∧ Hid (incF m (l.take j) = some x) ∧ Hid (j = 0 ∧ x = -1 ∨ ∃ j1, j = j1 + 1 ∧ l[j1]? = some x) ∧ Hid (FA w wr [.int .i64 k, .slice a m cap]))
  case atStart => exact ⟨0, -1, by omega, rfl, HI0, .inl ⟨rfl, rfl⟩, FB⟩
  case round =>
    obtain ⟨j, x, hjg, rfl, HI, HXX, FB⟩ := hrel
    clear HI0
    by_cases hlt : j < q
    · have hjl : j < l.length := by rw [← HQ.out]; exact hlt
      obtain ⟨hx1, hx2, hx3⟩ := incF_bound (by omega : j ≤ l.length) HI.out
      obtain ⟨rb, ro, rfl, hrb, x0⟩ := (HR.out.below FB.out.2).at hjl
      have hstep := incF_step (m := m) hjl
      rw [HI.out] at hstep
      simp only [Option.bind_some] at hstep
      have hlv : l[j]? = some l[j] := List.getElem?_eq_getElem hjl
      obtain ⟨v, hv⟩ : ∃ v, v = l[j] := ⟨_, rfl⟩
      rw [← hv] at x0 hstep hlv
      clear hv
      have HXV : Hid (j + 1 = 0 ∧ v = -1 ∨ ∃ j1, j + 1 = j1 + 1 ∧ l[j1]? = some v) := .inr ⟨j, rfl, hlv⟩
      unfold incS at hstep
      have HPA := Lib.hid x0
      have HRB := Lib.hid hrb
      have HJQ := Lib.hid hlt
      have HJB : Hid (j ≤ 100000) := by rw [Hid]; omega
      have HOWD : Hid (∀ w1, (clOld wr.drew).C w1 → Below wr.heap.size wr w1) := fun w1 hC => old_end (Below.refl _ _) hC (Nat.le_refl _)
      have HPX : Hid (∀ w1 x y, (clOld wr.drew).C w1 → wr.cell? ⟨rb, x, none⟩ = some y → w1.cell? ⟨rb, x, none⟩ = some y) := fun w1 x y hC h => by rw [Below.cell (HOWD.out w1 hC) (by exact HRB.out)]; exact h
      clear x0 hrb hlv
      rcases Bool.eq_false_or_eq_true (ftB v 0 ((m : Int) - 1)) with hbt | hbt
      · have HBT : Hid (∀ W, Calls Tryz.prog 45 #[.int .i64 v, .int .i64 0, .int .i64 ((m : Int) - 1)] W fun e w' => e = .returned (.bool true) ∧ W = w') := fun W => by rw [← hbt]; exact rBet_any v _ _ W
        unfold ftB at hbt
        simp only [Bool.and_eq_true, decide_eq_true_eq] at hbt
        rcases HXX.out with ⟨hj0, hxe⟩ | ⟨j1, hj1, hlj⟩
        · have HST : Hid (incF m (l.take (j + 1)) = some v) := by
            rw [Hid, hstep, if_pos]; unfold ftB; simp only [Bool.and_eq_true, decide_eq_true_eq]; omega
          have HJ0 : Hid (j = 0) := hj0
          clear hstep hbt hj0 hxe HXX hx1 hx2 hx3
          go_upto_region 6 with (fail)
          refine wp_region_old 26 80 (by kernel_rfl) (by kernel_rfl) (by rfl) ?_
          simp only [List.take_succ_cons, List.take_zero, List.drop_succ_cons, List.drop_zero, List.drop_nil]
          refine chain_move (.slice (some ⟨rb, ro, none⟩) q cq) _ (fun _ _ => Below.refl _ _) rfl rfl (by kernel_rfl) (by kernel_rfl) rfl ?_
          refine chain_move (.int .i64 j) _ (fun _ _ => Below.refl _ _) rfl rfl (by kernel_rfl) (by kernel_rfl) rfl ?_
          refine chain_idx (.pointer (some ⟨rb, ro + j, none⟩)) _ _ _ (.slice (some ⟨rb, ro, none⟩) q cq) (.int .i64 j) (fun _ _ => Below.refl _ _) rfl rfl (by kernel_rfl) (by kernel_rfl) rfl rfl (fun w1 => idx_i64 _ _ _ _ _ HJQ.out w1) ?_
          refine chain_load (.int .i64 v) _ _ _ (fun _ _ => Below.refl _ _) rfl rfl (by kernel_rfl) (by kernel_rfl) rfl (fun w1 hC => load_i64 (HPX.out w1 _ _ hC HPA.out)) ?_
          refine chain_val (.pointer (some ⟨w.heap.size, 1, none⟩)) (fun _ _ => Below.refl _ _) rfl (by intro cs b h; cases h) (by kernel_rfl) (by kernel_rfl) (fun w1 _ => by simp [execOp, evE, lk_cons, lk_nil, slotL, go_sem]) ?_
          refine chain_load (.slice a m cap) _ _ _ (fun _ _ => Below.refl _ _) rfl rfl (by kernel_rfl) (by kernel_rfl) rfl (fun w1 hC => load_slt ((FB.out.1.below (HOWD.out w1 hC)).cell rfl)) ?_
          refine chain_val (.int .i64 m) (fun _ _ => Below.refl _ _) rfl (by intro cs b h; cases h) (by kernel_rfl) (by kernel_rfl) (fun w1 _ => by simp [execOp, evE, lk_cons, lk_nil, slotL, go_sem]) ?_
          refine chain_bin (.int .i64 ((m : Int) - 1)) _ _ _ _ _ (.int .i64 m) (.int .i64 1) (fun _ _ => Below.refl _ _) rfl rfl (by kernel_rfl) (by kernel_rfl) rfl rfl (fun w1 => sub_1 _ _ _ _ HM5.out w1) ?_
          refine chain_call (.bool true) 45 [.int .i64 v, .int .i64 0, .int .i64 ((m : Int) - 1)] _ _ (enters_of Tryz.func45 (by kernel_rfl) rfl) rfl rfl rfl (by kernel_rfl) (by kernel_rfl) rfl rfl (fun w1 hC => (HBT.out w1).mono fun e w2 h => ⟨h.1, h.2 ▸ Below.refl _ _⟩) ?_
          refine chain_un (.bool false) _ _ _ (.bool true) (fun _ _ => Below.refl _ _) rfl rfl (by kernel_rfl) (by kernel_rfl) rfl (fun w => un_not _ w) ?_
          refine chain_move (.bool false) _ (fun _ _ => Below.refl _ _) rfl rfl (by kernel_rfl) (by kernel_rfl) rfl ?_
          refine chain_move (.int .i64 j) _ (fun _ _ => Below.refl _ _) rfl rfl (by kernel_rfl) (by kernel_rfl) rfl ?_
          refine chain_val (.bool false) (fun _ _ => Below.refl _ _) rfl (by intro cs b h; cases h) (by kernel_rfl) (by kernel_rfl) (fun w1 _ => by have := HJ0.out; subst this; simp [execOp, evE, lk_cons, lk_nil, slotL, go_sem]) ?_
          refine chain_move (.bool false) _ (fun _ _ => Below.refl _ _) rfl rfl (by kernel_rfl) (by kernel_rfl) rfl ?_
          refine chain_skip rfl (by kernel_rfl) ?_
          refine chain_skip rfl (by kernel_rfl) ?_
          refine chain_skip rfl (by kernel_rfl) ?_
          refine chain_skip rfl (by kernel_rfl) ?_
          refine chain_skip rfl (by kernel_rfl) ?_
          refine chain_skip rfl (by kernel_rfl) ?_
          refine chain_skip rfl (by kernel_rfl) ?_
          refine chain_skip rfl (by kernel_rfl) ?_
          refine chain_skip rfl (by kernel_rfl) ?_
          refine chain_skip rfl (by kernel_rfl) ?_
          refine chain_pick (.bool false) _ _ _ false (fun _ _ => Below.refl _ _) rfl rfl (by kernel_rfl) (by kernel_rfl) rfl rfl ?_
          refine chain_pick (.bool false) _ _ _ false (fun _ _ => Below.refl _ _) rfl rfl (by kernel_rfl) (by kernel_rfl) rfl rfl ?_
          refine chain_end (by rfl) ?_
          intro xs w5 hCw5 hrew5
          simp only [layE, List.foldr_cons, List.foldr_nil, List.set_cons_succ, List.set_cons_zero]
          have HY := Lib.hid (HOWD.out w5 hCw5)
          clear hCw5 hrew5 HOWD HPX
          go_wp2_with fail
          go_roundg (gk - 1)
          case measure => omega
          case rel => exact ⟨j + 1, v, by omega, by simp, HST, HXV, FB.out.below HY.out⟩
        · have hj1q : j1 < l.length := by omega
          obtain ⟨_, _, e2, _, y0⟩ := (HR.out.below FB.out.2).at hj1q
          cases e2
          rw [List.getElem?_eq_getElem hj1q] at hlj
          injection hlj with hlj
          rw [hlj] at y0
          have HPB := Lib.hid y0
          have HJ1 : Hid (j = j1 + 1) := hj1
          have HJQ1 : Hid (j1 < q) := by rw [Hid]; omega
          by_cases hge : v ≤ x
          · have HBD : Hid (clashF k ts l = false) := clashF_bad (j := j + 1) (by
              rw [← HM.out, hstep, if_neg]; unfold ftB; simp only [Bool.and_eq_true, decide_eq_true_eq]; omega)
            have HGE : Hid (v ≤ x) := hge
            clear hstep hbt hj1 hlj HXX hx1 hx2 hx3 y0 hj1q hge
            go_upto_region 6 with (fail)
            refine wp_region_old 26 80 (by kernel_rfl) (by kernel_rfl) (by rfl) ?_
            simp only [List.take_succ_cons, List.take_zero, List.drop_succ_cons, List.drop_zero, List.drop_nil]
            refine chain_move (.slice (some ⟨rb, ro, none⟩) q cq) _ (fun _ _ => Below.refl _ _) rfl rfl (by kernel_rfl) (by kernel_rfl) rfl ?_
            refine chain_move (.int .i64 j) _ (fun _ _ => Below.refl _ _) rfl rfl (by kernel_rfl) (by kernel_rfl) rfl ?_
            refine chain_idx (.pointer (some ⟨rb, ro + j, none⟩)) _ _ _ (.slice (some ⟨rb, ro, none⟩) q cq) (.int .i64 j) (fun _ _ => Below.refl _ _) rfl rfl (by kernel_rfl) (by kernel_rfl) rfl rfl (fun w1 => idx_i64 _ _ _ _ _ HJQ.out w1) ?_
            refine chain_load (.int .i64 v) _ _ _ (fun _ _ => Below.refl _ _) rfl rfl (by kernel_rfl) (by kernel_rfl) rfl (fun w1 hC => load_i64 (HPX.out w1 _ _ hC HPA.out)) ?_
            refine chain_val (.pointer (some ⟨w.heap.size, 1, none⟩)) (fun _ _ => Below.refl _ _) rfl (by intro cs b h; cases h) (by kernel_rfl) (by kernel_rfl) (fun w1 _ => by simp [execOp, evE, lk_cons, lk_nil, slotL, go_sem]) ?_
            refine chain_load (.slice a m cap) _ _ _ (fun _ _ => Below.refl _ _) rfl rfl (by kernel_rfl) (by kernel_rfl) rfl (fun w1 hC => load_slt ((FB.out.1.below (HOWD.out w1 hC)).cell rfl)) ?_
            refine chain_val (.int .i64 m) (fun _ _ => Below.refl _ _) rfl (by intro cs b h; cases h) (by kernel_rfl) (by kernel_rfl) (fun w1 _ => by simp [execOp, evE, lk_cons, lk_nil, slotL, go_sem]) ?_
            refine chain_bin (.int .i64 ((m : Int) - 1)) _ _ _ _ _ (.int .i64 m) (.int .i64 1) (fun _ _ => Below.refl _ _) rfl rfl (by kernel_rfl) (by kernel_rfl) rfl rfl (fun w1 => sub_1 _ _ _ _ HM5.out w1) ?_
            refine chain_call (.bool true) 45 [.int .i64 v, .int .i64 0, .int .i64 ((m : Int) - 1)] _ _ (enters_of Tryz.func45 (by kernel_rfl) rfl) rfl rfl rfl (by kernel_rfl) (by kernel_rfl) rfl rfl (fun w1 hC => (HBT.out w1).mono fun e w2 h => ⟨h.1, h.2 ▸ Below.refl _ _⟩) ?_
            refine chain_un (.bool false) _ _ _ (.bool true) (fun _ _ => Below.refl _ _) rfl rfl (by kernel_rfl) (by kernel_rfl) rfl (fun w => un_not _ w) ?_
            refine chain_move (.bool false) _ (fun _ _ => Below.refl _ _) rfl rfl (by kernel_rfl) (by kernel_rfl) rfl ?_
            refine chain_move (.int .i64 j) _ (fun _ _ => Below.refl _ _) rfl rfl (by kernel_rfl) (by kernel_rfl) rfl ?_
            refine chain_val (.bool true) (fun _ _ => Below.refl _ _) rfl (by intro cs b h; cases h) (by kernel_rfl) (by kernel_rfl) (fun w1 _ => by have := HJ1.out; simp [execOp, evE, lk_cons, lk_nil, slotL, go_sem]; omega) ?_
            refine chain_move (.bool true) _ (fun _ _ => Below.refl _ _) rfl rfl (by kernel_rfl) (by kernel_rfl) rfl ?_
            refine chain_move (.slice (some ⟨rb, ro, none⟩) q cq) _ (fun _ _ => Below.refl _ _) rfl rfl (by kernel_rfl) (by kernel_rfl) rfl ?_
            refine chain_move (.int .i64 j) _ (fun _ _ => Below.refl _ _) rfl rfl (by kernel_rfl) (by kernel_rfl) rfl ?_
            refine chain_bin (.int .i64 (j1 : Int)) _ _ _ _ _ (.int .i64 j) (.int .i64 1) (fun _ _ => Below.refl _ _) rfl rfl (by kernel_rfl) (by kernel_rfl) rfl rfl (fun w1 => by rw [show (j1 : Int) = (j : Int) - 1 by have := HJ1.out; omega]; exact sub_1 _ _ _ _ HJB.out w1) ?_
            refine chain_idx (.pointer (some ⟨rb, ro + j1, none⟩)) _ _ _ (.slice (some ⟨rb, ro, none⟩) q cq) (.int .i64 (j1 : Int)) (fun _ _ => Below.refl _ _) rfl rfl (by kernel_rfl) (by kernel_rfl) rfl rfl (fun w1 => idx_i64 _ _ _ _ _ HJQ1.out w1) ?_
            refine chain_load (.int .i64 x) _ _ _ (fun _ _ => Below.refl _ _) rfl rfl (by kernel_rfl) (by kernel_rfl) rfl (fun w1 hC => load_i64 (HPX.out w1 _ _ hC HPB.out)) ?_
            refine chain_move (.slice (some ⟨rb, ro, none⟩) q cq) _ (fun _ _ => Below.refl _ _) rfl rfl (by kernel_rfl) (by kernel_rfl) rfl ?_
            refine chain_move (.int .i64 j) _ (fun _ _ => Below.refl _ _) rfl rfl (by kernel_rfl) (by kernel_rfl) rfl ?_
            refine chain_idx (.pointer (some ⟨rb, ro + j, none⟩)) _ _ _ (.slice (some ⟨rb, ro, none⟩) q cq) (.int .i64 j) (fun _ _ => Below.refl _ _) rfl rfl (by kernel_rfl) (by kernel_rfl) rfl rfl (fun w1 => idx_i64 _ _ _ _ _ HJQ.out w1) ?_
            refine chain_load (.int .i64 v) _ _ _ (fun _ _ => Below.refl _ _) rfl rfl (by kernel_rfl) (by kernel_rfl) rfl (fun w1 hC => load_i64 (HPX.out w1 _ _ hC HPA.out)) ?_
            refine chain_val (.bool true) (fun _ _ => Below.refl _ _) rfl (by intro cs b h; cases h) (by kernel_rfl) (by kernel_rfl) (fun w1 _ => by have := HGE.out; simp [execOp, evE, lk_cons, lk_nil, slotL, go_sem]; omega) ?_
            refine chain_pick (.bool true) _ _ _ true (fun _ _ => Below.refl _ _) rfl rfl (by kernel_rfl) (by kernel_rfl) rfl rfl ?_
            refine chain_pick (.bool true) _ _ _ false (fun _ _ => Below.refl _ _) rfl rfl (by kernel_rfl) (by kernel_rfl) rfl rfl ?_
            refine chain_end (by rfl) ?_
            intro xs w5 hCw5 hrew5
            simp only [layE, List.foldr_cons, List.foldr_nil, List.set_cons_succ, List.set_cons_zero]
            have HY := Lib.hid (HOWD.out w5 hCw5)
            clear hCw5 hrew5 HOWD HPX
            go_wp2_with fail
            go_ret
            exact ⟨by rw [HE.out, HBD.out]; rfl, FB.out.2.trans (HY.out.mono FB.out.2.size)⟩
          · have HST : Hid (incF m (l.take (j + 1)) = some v) := by
              rw [Hid, hstep, if_pos]; unfold ftB; simp only [Bool.and_eq_true, decide_eq_true_eq]; omega
            have HGE : Hid (x < v) := by rw [Hid]; omega
            clear hstep hbt hj1 hlj HXX hx1 hx2 hx3 y0 hj1q hge
            go_upto_region 6 with (fail)
            refine wp_region_old 26 80 (by kernel_rfl) (by kernel_rfl) (by rfl) ?_
            simp only [List.take_succ_cons, List.take_zero, List.drop_succ_cons, List.drop_zero, List.drop_nil]
            refine chain_move (.slice (some ⟨rb, ro, none⟩) q cq) _ (fun _ _ => Below.refl _ _) rfl rfl (by kernel_rfl) (by kernel_rfl) rfl ?_
            refine chain_move (.int .i64 j) _ (fun _ _ => Below.refl _ _) rfl rfl (by kernel_rfl) (by kernel_rfl) rfl ?_
            refine chain_idx (.pointer (some ⟨rb, ro + j, none⟩)) _ _ _ (.slice (some ⟨rb, ro, none⟩) q cq) (.int .i64 j) (fun _ _ => Below.refl _ _) rfl rfl (by kernel_rfl) (by kernel_rfl) rfl rfl (fun w1 => idx_i64 _ _ _ _ _ HJQ.out w1) ?_
            refine chain_load (.int .i64 v) _ _ _ (fun _ _ => Below.refl _ _) rfl rfl (by kernel_rfl) (by kernel_rfl) rfl (fun w1 hC => load_i64 (HPX.out w1 _ _ hC HPA.out)) ?_
            refine chain_val (.pointer (some ⟨w.heap.size, 1, none⟩)) (fun _ _ => Below.refl _ _) rfl (by intro cs b h; cases h) (by kernel_rfl) (by kernel_rfl) (fun w1 _ => by simp [execOp, evE, lk_cons, lk_nil, slotL, go_sem]) ?_
            refine chain_load (.slice a m cap) _ _ _ (fun _ _ => Below.refl _ _) rfl rfl (by kernel_rfl) (by kernel_rfl) rfl (fun w1 hC => load_slt ((FB.out.1.below (HOWD.out w1 hC)).cell rfl)) ?_
            refine chain_val (.int .i64 m) (fun _ _ => Below.refl _ _) rfl (by intro cs b h; cases h) (by kernel_rfl) (by kernel_rfl) (fun w1 _ => by simp [execOp, evE, lk_cons, lk_nil, slotL, go_sem]) ?_
            refine chain_bin (.int .i64 ((m : Int) - 1)) _ _ _ _ _ (.int .i64 m) (.int .i64 1) (fun _ _ => Below.refl _ _) rfl rfl (by kernel_rfl) (by kernel_rfl) rfl rfl (fun w1 => sub_1 _ _ _ _ HM5.out w1) ?_
            refine chain_call (.bool true) 45 [.int .i64 v, .int .i64 0, .int .i64 ((m : Int) - 1)] _ _ (enters_of Tryz.func45 (by kernel_rfl) rfl) rfl rfl rfl (by kernel_rfl) (by kernel_rfl) rfl rfl (fun w1 hC => (HBT.out w1).mono fun e w2 h => ⟨h.1, h.2 ▸ Below.refl _ _⟩) ?_
            refine chain_un (.bool false) _ _ _ (.bool true) (fun _ _ => Below.refl _ _) rfl rfl (by kernel_rfl) (by kernel_rfl) rfl (fun w => un_not _ w) ?_
            refine chain_move (.bool false) _ (fun _ _ => Below.refl _ _) rfl rfl (by kernel_rfl) (by kernel_rfl) rfl ?_
            refine chain_move (.int .i64 j) _ (fun _ _ => Below.refl _ _) rfl rfl (by kernel_rfl) (by kernel_rfl) rfl ?_
            refine chain_val (.bool true) (fun _ _ => Below.refl _ _) rfl (by intro cs b h; cases h) (by kernel_rfl) (by kernel_rfl) (fun w1 _ => by have := HJ1.out; simp [execOp, evE, lk_cons, lk_nil, slotL, go_sem]; omega) ?_
            refine chain_move (.bool true) _ (fun _ _ => Below.refl _ _) rfl rfl (by kernel_rfl) (by kernel_rfl) rfl ?_
            refine chain_move (.slice (some ⟨rb, ro, none⟩) q cq) _ (fun _ _ => Below.refl _ _) rfl rfl (by kernel_rfl) (by kernel_rfl) rfl ?_
            refine chain_move (.int .i64 j) _ (fun _ _ => Below.refl _ _) rfl rfl (by kernel_rfl) (by kernel_rfl) rfl ?_
            refine chain_bin (.int .i64 (j1 : Int)) _ _ _ _ _ (.int .i64 j) (.int .i64 1) (fun _ _ => Below.refl _ _) rfl rfl (by kernel_rfl) (by kernel_rfl) rfl rfl (fun w1 => by rw [show (j1 : Int) = (j : Int) - 1 by have := HJ1.out; omega]; exact sub_1 _ _ _ _ HJB.out w1) ?_
            refine chain_idx (.pointer (some ⟨rb, ro + j1, none⟩)) _ _ _ (.slice (some ⟨rb, ro, none⟩) q cq) (.int .i64 (j1 : Int)) (fun _ _ => Below.refl _ _) rfl rfl (by kernel_rfl) (by kernel_rfl) rfl rfl (fun w1 => idx_i64 _ _ _ _ _ HJQ1.out w1) ?_
            refine chain_load (.int .i64 x) _ _ _ (fun _ _ => Below.refl _ _) rfl rfl (by kernel_rfl) (by kernel_rfl) rfl (fun w1 hC => load_i64 (HPX.out w1 _ _ hC HPB.out)) ?_
            refine chain_move (.slice (some ⟨rb, ro, none⟩) q cq) _ (fun _ _ => Below.refl _ _) rfl rfl (by kernel_rfl) (by kernel_rfl) rfl ?_
            refine chain_move (.int .i64 j) _ (fun _ _ => Below.refl _ _) rfl rfl (by kernel_rfl) (by kernel_rfl) rfl ?_
            refine chain_idx (.pointer (some ⟨rb, ro + j, none⟩)) _ _ _ (.slice (some ⟨rb, ro, none⟩) q cq) (.int .i64 j) (fun _ _ => Below.refl _ _) rfl rfl (by kernel_rfl) (by kernel_rfl) rfl rfl (fun w1 => idx_i64 _ _ _ _ _ HJQ.out w1) ?_
            refine chain_load (.int .i64 v) _ _ _ (fun _ _ => Below.refl _ _) rfl rfl (by kernel_rfl) (by kernel_rfl) rfl (fun w1 hC => load_i64 (HPX.out w1 _ _ hC HPA.out)) ?_
            refine chain_val (.bool false) (fun _ _ => Below.refl _ _) rfl (by intro cs b h; cases h) (by kernel_rfl) (by kernel_rfl) (fun w1 _ => by have := HGE.out; simp [execOp, evE, lk_cons, lk_nil, slotL, go_sem]; omega) ?_
            refine chain_pick (.bool false) _ _ _ true (fun _ _ => Below.refl _ _) rfl rfl (by kernel_rfl) (by kernel_rfl) rfl rfl ?_
            refine chain_pick (.bool false) _ _ _ false (fun _ _ => Below.refl _ _) rfl rfl (by kernel_rfl) (by kernel_rfl) rfl rfl ?_
            refine chain_end (by rfl) ?_
            intro xs w5 hCw5 hrew5
            simp only [layE, List.foldr_cons, List.foldr_nil, List.set_cons_succ, List.set_cons_zero]
            have HY := Lib.hid (HOWD.out w5 hCw5)
            clear hCw5 hrew5 HOWD HPX
            go_wp2_with fail
            go_roundg (gk - 1)
            case measure => omega
            case rel => exact ⟨j + 1, v, by omega, by simp, HST, HXV, FB.out.below HY.out⟩
      · have HBT : Hid (∀ W, Calls Tryz.prog 45 #[.int .i64 v, .int .i64 0, .int .i64 ((m : Int) - 1)] W fun e w' => e = .returned (.bool false) ∧ W = w') := fun W => by rw [← hbt]; exact rBet_any v _ _ W
        have HBD : Hid (clashF k ts l = false) := clashF_bad (j := j + 1) (by
          rw [← HM.out, hstep, if_neg]
          unfold ftB at hbt ⊢
          simp only [Bool.and_eq_false_iff, decide_eq_false_iff_not] at hbt
          simp only [Bool.and_eq_true, decide_eq_true_eq]; omega)
        clear hstep hbt HXX hx1 hx2 hx3
        go_upto_region 6 with (fail)
        refine wp_region_old 26 80 (by kernel_rfl) (by kernel_rfl) (by rfl) ?_
        simp only [List.take_succ_cons, List.take_zero, List.drop_succ_cons, List.drop_zero, List.drop_nil]
        refine chain_move (.slice (some ⟨rb, ro, none⟩) q cq) _ (fun _ _ => Below.refl _ _) rfl rfl (by kernel_rfl) (by kernel_rfl) rfl ?_
        refine chain_move (.int .i64 j) _ (fun _ _ => Below.refl _ _) rfl rfl (by kernel_rfl) (by kernel_rfl) rfl ?_
        refine chain_idx (.pointer (some ⟨rb, ro + j, none⟩)) _ _ _ (.slice (some ⟨rb, ro, none⟩) q cq) (.int .i64 j) (fun _ _ => Below.refl _ _) rfl rfl (by kernel_rfl) (by kernel_rfl) rfl rfl (fun w1 => idx_i64 _ _ _ _ _ HJQ.out w1) ?_
        refine chain_load (.int .i64 v) _ _ _ (fun _ _ => Below.refl _ _) rfl rfl (by kernel_rfl) (by kernel_rfl) rfl (fun w1 hC => load_i64 (HPX.out w1 _ _ hC HPA.out)) ?_
        refine chain_val (.pointer (some ⟨w.heap.size, 1, none⟩)) (fun _ _ => Below.refl _ _) rfl (by intro cs b h; cases h) (by kernel_rfl) (by kernel_rfl) (fun w1 _ => by simp [execOp, evE, lk_cons, lk_nil, slotL, go_sem]) ?_
        refine chain_load (.slice a m cap) _ _ _ (fun _ _ => Below.refl _ _) rfl rfl (by kernel_rfl) (by kernel_rfl) rfl (fun w1 hC => load_slt ((FB.out.1.below (HOWD.out w1 hC)).cell rfl)) ?_
        refine chain_val (.int .i64 m) (fun _ _ => Below.refl _ _) rfl (by intro cs b h; cases h) (by kernel_rfl) (by kernel_rfl) (fun w1 _ => by simp [execOp, evE, lk_cons, lk_nil, slotL, go_sem]) ?_
        refine chain_bin (.int .i64 ((m : Int) - 1)) _ _ _ _ _ (.int .i64 m) (.int .i64 1) (fun _ _ => Below.refl _ _) rfl rfl (by kernel_rfl) (by kernel_rfl) rfl rfl (fun w1 => sub_1 _ _ _ _ HM5.out w1) ?_
        refine chain_call (.bool false) 45 [.int .i64 v, .int .i64 0, .int .i64 ((m : Int) - 1)] _ _ (enters_of Tryz.func45 (by kernel_rfl) rfl) rfl rfl rfl (by kernel_rfl) (by kernel_rfl) rfl rfl (fun w1 hC => (HBT.out w1).mono fun e w2 h => ⟨h.1, h.2 ▸ Below.refl _ _⟩) ?_
        refine chain_un (.bool true) _ _ _ (.bool false) (fun _ _ => Below.refl _ _) rfl rfl (by kernel_rfl) (by kernel_rfl) rfl (fun w => un_not _ w) ?_
        refine chain_move (.bool true) _ (fun _ _ => Below.refl _ _) rfl rfl (by kernel_rfl) (by kernel_rfl) rfl ?_
        refine chain_skip rfl (by kernel_rfl) ?_
        refine chain_skip rfl (by kernel_rfl) ?_
        refine chain_skip rfl (by kernel_rfl) ?_
        refine chain_skipU rfl (by kernel_rfl) ?_
        refine chain_skipU rfl (by kernel_rfl) ?_
        refine chain_skipU rfl (by kernel_rfl) ?_
        refine chain_skipU rfl (by kernel_rfl) ?_
        refine chain_skipU rfl (by kernel_rfl) ?_
        refine chain_skipU rfl (by kernel_rfl) ?_
        refine chain_skipU rfl (by kernel_rfl) ?_
        refine chain_skipU rfl (by kernel_rfl) ?_
        refine chain_skipU rfl (by kernel_rfl) ?_
        refine chain_skipU rfl (by kernel_rfl) ?_
        refine chain_skip rfl (by kernel_rfl) ?_
        refine chain_pick (.bool true) _ _ _ true (fun _ _ => Below.refl _ _) rfl rfl (by kernel_rfl) (by kernel_rfl) rfl rfl ?_
        refine chain_end (by rfl) ?_
        intro xs w5 hCw5 hrew5
        simp only [layE, List.foldr_cons, List.foldr_nil, List.set_cons_succ, List.set_cons_zero]
        have HY := Lib.hid (HOWD.out w5 hCw5)
        clear hCw5 hrew5 HOWD HPX
        go_wp2_with fail
        go_ret
        exact ⟨by rw [HE.out, HBD.out]; rfl, FB.out.2.trans (HY.out.mono FB.out.2.size)⟩
    · have e : q = j := by omega
      subst e
      have hts : l.take q = l := List.take_of_length_le (by rw [← HQ.out]; omega)
      have hin := incF_in (m := m) (l := l) (j := q) (x := x) (by rw [← HQ.out]; omega) HI.out
      obtain ⟨hx1, hx2, hx3⟩ := incF_bound (m := m) (l := l) (j := q) (x := x) (by rw [← HQ.out]; omega) HI.out
      rw [hts] at HI hin
      clear hts HXX
      have hul : (subF ts l).length = q := by rw [subF_all (by rw [← HM.out]; exact hin), HQ.out]
      have hq5 : q ≤ 512 := by omega
      have HSM : Hid (∀ t ∈ subF ts l, t ∈ ts) := fun t ht => subF_mem ht
      have HAT : Hid (∀ j (hj : j < l.length), ∃ t, ts[(l[j]).toNat]? = some t ∧ (subF ts l)[j]? = some t ∧ 0 ≤ l[j]) := fun j hj => by
        obtain ⟨t, h1, h2⟩ := subF_at (ts := ts) (by rw [← HM.out]; exact hin) hj
        exact ⟨t, h1, h2, (hin _ (List.getElem_mem hj)).1⟩
      have HCL : Hid (clashF k ts l = (List.range (q + 1)).all (leaveB k (subF ts l) q)) := by
        have h := leave_all k (subF ts l)
        rw [hul] at h
        rw [Hid, h]; unfold clashF; rw [← HM.out, HI.out, hul]; rfl
      obtain ⟨us, hus⟩ : ∃ us, us = subF ts l := ⟨_, rfl⟩
      rw [← hus] at HSM HAT HCL hul
      clear hus HI hin hx1 hx2 hx3 hlt
      have HUL := Lib.hid hul
      have HB0 : Hid ((List.range 0).all (leaveB k us q) = true) := rfl
      clear hul
      go_wp2_with fail
      go_loopg [6, 7, 8] (q + 1) (fun gk t6 t7 t8 wr => ∃ (e : Nat) (lv : Int), e + gk = q + 1 ∧ t6 = .int .i64 lv ∧ Hid (lv = (e : Int) - 1) ∧ Hid ((List.range e).all (leaveB k us q) = true) ∧ Hid (FA w wr [.int .i64 k, .slice a m cap]))
      case atStart => exact ⟨0, -1, by omega, rfl, rfl, HB0, FB⟩
      case round =>
        clear HB0 FB
        obtain ⟨e, lv, hjg, rfl, HLV, HA, FB⟩ := hrel
        by_cases hlt : e < q + 1
        · have t1 : decide (lv < (q : Int)) = true := decide_eq_true (by have := HLV.out; omega)
          have c0 := FB.out.1.cell (i := 0) rfl
          have hlvlo : -1 ≤ lv := by have := HLV.out; omega
          have hlvhi : lv < 1000 := by have := HLV.out; omega
          go_upto_region 12 with (fail)
          refine named (fun V => Hid (Blk V wr.heap.size [.int .i64 k, .slice none 0 0] 24) ∧ Hid (FA w V [.int .i64 k, .slice a m cap]) ∧ Hid (wr.heap.size + 1 ≤ V.heap.size)) ⟨Blk.new wr [.int .i64 k, .slice none 0 0] _, FB.out.below ((Below.refl _ _).alloc (Nat.le_refl _) _), by simp [Hid]⟩ ?_
          rintro V ⟨K7, FV, HZ⟩
          have HBB : Hid (w.heap.size < wr.heap.size) := FB.out.1.lt
          generalize hb7 : wr.heap.size = b7 at K7 HZ HBB ⊢
          clear FB c0 hb7 t1
          obtain ⟨o, ho⟩ : ∃ o, o = outE q e := ⟨_, rfl⟩
          have HO : Hid (∀ j : Nat, j < q → ((j : Int) != lv) = (j != o)) := fun j hj => by
            have h1 := HLV.out
            have h2 : ((j : Int) = lv) ↔ j = o := by rw [ho]; unfold outE; split <;> omega
            exact Bool.eq_iff_iff.2 (by simp [h2])
          have HOE := Lib.hid ho
          have HS0 : Hid (HGr w (b7 + 1) b7 k ((us.take 0).eraseIdx o) V) := ⟨⟨.slice none 0 0, by have h := World.ownsRow_nil V (b7 + 1) 43 5; simpa [tvL] using h, K7.out⟩, FV.out.2⟩
          clear ho K7
          go_wp2_with fail
          go_loopg [8] q (fun gk2 t8 wx => ∃ j : Nat, j + gk2 = q ∧ t8 = .int .i64 j ∧ Hid (HGr w (b7 + 1) b7 k ((us.take j).eraseIdx o) wx) ∧ Hid (FA w wx [.int .i64 k, .slice a m cap]) ∧ Hid (b7 + 1 ≤ wx.heap.size))
          case atStart => exact ⟨0, by omega, rfl, HS0, FV, HZ⟩
          case round =>
            clear HS0 FV HZ
            obtain ⟨j, hjg2, rfl, H, FB, HZr⟩ := hrel
            by_cases hlt2 : j < q
            · have hjl : j < l.length := by rw [← HQ.out]; exact hlt2
              have hju : j < us.length := by rw [HUL.out]; exact hlt2
              obtain ⟨t, ht1, ht2, hv0⟩ := HAT.out j hjl
              obtain ⟨st1, st2⟩ := eras_step (i := o) hju
              obtain ⟨rb, ro, rfl, hrb, x0⟩ := (HR.out.below FB.out.2).at hjl
              have e4 : us[j] = t := by rw [List.getElem?_eq_getElem hju] at ht2; exact Option.some.inj ht2
              rw [e4] at st1
              obtain ⟨i, hi⟩ := Int.eq_ofNat_of_zero_le hv0
              rw [hi] at x0 ht1
              rw [Int.toNat_natCast] at ht1
              obtain ⟨hil, hti⟩ := List.getElem?_eq_some_iff.1 ht1
              obtain ⟨lb, lo, rfl, hlb, y0, y1, y2, y3, y4⟩ := (HS.out.below FB.out.2).at hil
              rw [hti] at y0 y1 y2 y3 y4
              have HLT : Hid (i < m) := by rw [Hid, HM.out]; exact hil
              have hlen : ((us.take j).eraseIdx o).length ≤ 1000 := by have h1 := List.length_eraseIdx_le (us.take j) o; rw [List.length_take] at h1; omega
              obtain ⟨pre, hpre⟩ : ∃ pre, pre = (us.take j).eraseIdx o := ⟨_, rfl⟩
              rw [← hpre] at H st1 st2 hlen
              have hne := HO.out j hlt2
              by_cases hjo : j = o
              · have HST := Lib.hid (st2 hjo)
                have t2 : ((j : Int) != lv) = false := by rw [hne]; simp [hjo]
                clear hjo st1 st2 x0 y0 y1 y2 y3 y4 hne hpre ht1 ht2 hv0 hi hti hil hjl hju e4 hrb hlb
                go_wp2_with fail
                go_roundg (gk - 1)
                case measure => omega
                case rel => exact ⟨j + 1, by omega, by simp, by rw [HST.out]; exact H, FB, HZr⟩
              · have HST := Lib.hid (st1 hjo)
                have t2 : ((j : Int) != lv) = true := by rw [hne]; simp [hjo]
                have HRC : Hid (∀ W, Old wr.drew W → W.cell? ⟨rb, ro + j, none⟩ = some (.int .i64 (i : Int))) := fun W h => by rw [Below.cell h (by exact hrb)]; exact x0
                have HX0 : Hid (∀ W, Old wr.drew W → (Instr.loadAt 43 (.pointer (some ⟨lb, lo + i * 5, none⟩))).run Tryz.prog W = .ok (tieV t) W) := fun W h => load_tie (by rw [Below.cell h (by exact hlb)]; exact y0) (by rw [Below.cell h (by exact hlb)]; exact y1) (by rw [Below.cell h (by exact hlb)]; exact y2) (by rw [Below.cell h (by exact hlb)]; exact y3) (by rw [Below.cell h (by exact hlb)]; exact y4)
                have HJQ : Hid (j < q) := hlt2
                clear hjo st1 st2 x0 y0 y1 y2 y3 y4 hne hpre ht1 ht2 hv0 hi hti hil hjl hju e4 hrb hlb
                obtain ⟨tv, hown, hblk⟩ := H.out.own
                obtain ⟨fa, fc, rfl, hm0, hfi⟩ := own_ties hown
                obtain ⟨q', hq'⟩ : ∃ q', q' = pre.length := ⟨_, rfl⟩
                rw [← hq'] at hown hblk hlen
                have HOW := Lib.hid hown
                have HBK := Lib.hid hblk
                have HQL := Lib.hid hq'
                clear hown hblk hm0 hfi hq'
                go_upto_region 16 with (fail)
                clear t2
                have HOLD : Hid (∀ w1, (clOld wr.drew).C w1 → Below wr.heap.size wr w1) := fun w1 hC => old_end (Below.refl _ _) hC (Nat.le_refl _)
                refine wp_region_late_old 13 80 11 [12] (by kernel_rfl) (by kernel_rfl) (by rfl) ?_
                simp only [List.take_succ_cons, List.take_zero, List.eraseIdx_cons_succ, List.eraseIdx_cons_zero]
                refine chain_val (.pointer (some ⟨b7, 1, none⟩)) (fun _ _ => Below.refl _ _) rfl (by intro cs b h; cases h) (by kernel_rfl) (by kernel_rfl) (fun w1 _ => by simp [execOp, evE, lk_cons, lk_nil, slotL, go_sem]) ?_
                refine chain_load (.slice fa q' fc) _ _ _ (fun _ _ => Below.refl _ _) rfl rfl (by kernel_rfl) (by kernel_rfl) rfl (fun w1 hC => load_slq ((HBK.out.below (HOLD.out w1 hC)).cell rfl)) ?_
                refine chain_val (.pointer (some ⟨w.heap.size, 1, none⟩)) (fun _ _ => Below.refl _ _) rfl (by intro cs b h; cases h) (by kernel_rfl) (by kernel_rfl) (fun w1 _ => by simp [execOp, evE, lk_cons, lk_nil, slotL, go_sem]) ?_
                refine chain_load (.slice (some ⟨lb, lo, none⟩) m cap) _ _ _ (fun _ _ => Below.refl _ _) rfl rfl (by kernel_rfl) (by kernel_rfl) rfl (fun w1 hC => load_slq ((FB.out.1.below (HOLD.out w1 hC)).cell rfl)) ?_
                refine chain_move (.slice (some ⟨rb, ro, none⟩) q cq) _ (fun _ _ => Below.refl _ _) rfl rfl (by kernel_rfl) (by kernel_rfl) rfl ?_
                refine chain_move (.int .i64 (j : Int)) _ (fun _ _ => Below.refl _ _) rfl rfl (by kernel_rfl) (by kernel_rfl) rfl ?_
                refine chain_idx (.pointer (some ⟨rb, ro + j, none⟩)) _ _ _ (.slice (some ⟨rb, ro, none⟩) q cq) (.int .i64 (j : Int)) (fun _ _ => Below.refl _ _) rfl rfl (by kernel_rfl) (by kernel_rfl) rfl rfl (fun w1 => idx_i64 _ _ _ _ _ HJQ.out w1) ?_
                refine chain_load (.int .i64 (i : Int)) _ _ _ (fun _ _ => Below.refl _ _) rfl rfl (by kernel_rfl) (by kernel_rfl) rfl (fun w1 hC => load_i64 (HRC.out w1 hC)) ?_
                refine chain_idx (.pointer (some ⟨lb, lo + i * 5, none⟩)) _ _ _ (.slice (some ⟨lb, lo, none⟩) m cap) (.int .i64 (i : Int)) (fun _ _ => Below.refl _ _) rfl rfl (by kernel_rfl) (by kernel_rfl) rfl rfl (fun w1 => idx_tie _ _ _ _ _ HLT.out w1) ?_
                refine chain_load (tieV t) _ _ _ (fun _ _ => Below.refl _ _) rfl rfl (by kernel_rfl) (by kernel_rfl) rfl (fun w1 hC => HX0.out w1 hC) ?_
                refine chain_new (tieW t) (tieW_lasts _) rfl (by intro cs b h; cases h) (by kernel_rfl) (by kernel_rfl) (fun w1 hC => new_tie (by simp [execOp, evE, lk_cons, lk_nil, go_sem, Instr.buildSlice, tieV]) hC) ?_
                refine chain_val (.pointer (some ⟨b7, 1, none⟩)) (fun _ _ => Below.refl _ _) rfl (by intro cs b h; cases h) (by kernel_rfl) (by kernel_rfl) (fun w1 _ => by simp [execOp, evE, lk_cons, lk_nil, slotL, go_sem]) ?_
                refine after_app 63 72 (by rfl) (by rfl) (by rfl) (by rfl) (by kernel_rfl) (by kernel_rfl) ?_
                intro x' z w1 hC hx hz
                replace hx : x' = .slice fa q' fc := hx
                subst hx
                replace hz : tieW t z w1 := hz
                obtain ⟨b9, rfl, hta⟩ := hz
                have hb1 := HOLD.out w1 hC
                obtain ⟨f2, c2, w6, hrun, hown, hgrow⟩ := own_app w1 (b7 + 1) q' 22 fa fc pre b9 t (own_below HOW.out hb1) hta (by omega) (Nat.le_trans HZr.out hb1.size)
                refine ⟨.slice f2 (q' + 1) c2, w6, hrun, ?_, ?_⟩
                · intro i hi p' e' hp' he'
                  obtain rfl : i = 12 := by simpa using hi
                  cases hp'
                  cases he'
                  exact obl_at (.pointer (some ⟨b7, 1, none⟩)) (by intro cs b h; cases h) (by kernel_rfl) (by kernel_rfl) rfl (by simp [execOp, evE, lk_cons, lk_nil, weak, weak1, slotL, go_sem])
                have K6O := Lib.hid hown
                have K6K : Hid (Blk w6 b7 [.int .i64 k, .slice fa q' fc] 24) := (HBK.out.below hb1).block (hgrow.block _ (HBK.out.below hb1).lt (fun e => own_ne (own_below HOW.out hb1) (HBK.out.below hb1) e.symm))
                have K61 : Hid (Blk w6 w.heap.size [.int .i64 k, .slice (some ⟨lb, lo, none⟩) m cap] 24) := (FB.out.1.below hb1).block (hgrow.block _ (FB.out.1.below hb1).lt (fun e => own_ne (own_below HOW.out hb1) (FB.out.1.below hb1) e.symm))
                have K6S : Hid (b7 + 1 ≤ w6.heap.size) := Nat.le_trans HZr.out (Nat.le_trans hb1.size hgrow.size)
                have K6W : Hid (Below w.heap.size w w6) := (H.out.old.trans (hb1.mono H.out.old.size)).grown hgrow (by have := H.out.old.size; have := hb1.size; omega) (fun q' hq' => by have := (World.ownsRow.lt HOW.out q' hq').1; have := HBB.out; omega)
                clear hrun hown hgrow hta hb1 hC
                refine chain_end (by rfl) ?_
                intro xs w7 hw7 hre
                obtain rfl : w7 = w6 := hw7
                clear hre
                simp only [layE, weak, weak1, List.foldr_cons, List.foldr_nil, List.set_cons_succ, List.set_cons_zero]
                have n1 := K6K.out.cell (i := 1) rfl
                have f1 := K6K.out.frozen 1
                have H7 : Hid (HGr w (b7 + 1) b7 k ((us.take (j + 1)).eraseIdx o) (w7.setCell ⟨b7, 1, none⟩ (.slice f2 (q' + 1) c2))) := by
                  refine ⟨⟨_, ?_, K6K.out.set_ 1 _⟩, K6W.out.setCell (by have := HBB.out; show w.heap.size ≤ b7; omega) _⟩
                  rw [HST.out, List.length_append, ← HQL.out]
                  exact ownsRow_setCell_below K6O.out (Nat.lt_succ_self _) _
                have o1 : Only b7 w7 (w7.setCell ⟨b7, 1, none⟩ (.slice f2 (q' + 1) c2)) := (Only.refl b7 w7).set_ 1 _
                have H71 : Hid (FA w (w7.setCell ⟨b7, 1, none⟩ (.slice f2 (q' + 1) c2)) [.int .i64 k, .slice (some ⟨lb, lo, none⟩) m cap]) := ⟨K61.out.only o1 (by have := HBB.out; omega), H7.out.old⟩
                have H7S : Hid (b7 + 1 ≤ (w7.setCell ⟨b7, 1, none⟩ (.slice f2 (q' + 1) c2)).heap.size) := Nat.le_trans K6S.out o1.2
                clear o1 K6O K6K K61 K6S K6W
                go_wp2_with fail
                go_roundg (gk - 1)
                case measure => omega
                case rel => exact ⟨j + 1, by omega, by simp, H7, H71, H7S⟩
            · have e5 : q = j := by omega
              subst e5
              have hts : us.take q = us := List.take_of_length_le (by rw [HUL.out]; omega)
              rw [hts] at H
              clear hts
              have HSE : Hid (∀ t ∈ us.eraseIdx o, t ∈ ts) := fun t ht => HSM.out t (List.mem_of_mem_eraseIdx ht)
              have hel : (us.eraseIdx o).length ≤ 512 := by have := List.length_eraseIdx_le us o; rw [HUL.out] at this; omega
              obtain ⟨D, hD⟩ : ∃ D, D = conF k (us.eraseIdx o) := ⟨_, rfl⟩
              have HLE : Hid (leaveB k us q e = (D == (e == 0))) := by rw [Hid, hD, HOE.out]; rfl
              obtain ⟨F, hF⟩ : ∃ F, F = us.eraseIdx o := ⟨_, rfl⟩
              rw [← hF] at H HSE hel hD
              obtain ⟨tv, hown, hblk⟩ := H.out.own
              obtain ⟨fa, fc, rfl, hm0, hfi⟩ := own_ties hown
              have HT := Lib.hid hfi
              have HCD : Hid (∀ W, TiesAt W fa F → Calls Tryz.prog 21 #[.agg #[.int .i64 k, .slice fa F.length fc]] W fun e w' => e = .returned (.bool D) ∧ Below W.heap.size W w') := fun W h => by rw [hD]; exact HCO.out W fa fc F HSE.out hel h
              have HBK := Lib.hid hblk
              have c0 := HBK.out.cell (i := 0) rfl
              have c1 := HBK.out.cell (i := 1) rfl
              obtain ⟨M, hM⟩ : ∃ M, M = F.length := ⟨_, rfl⟩
              rw [← hM] at HCD c1 HBK
              clear hown hblk hm0 hfi hD hF hM hel
              obtain ⟨b0, hb0⟩ : ∃ b0, b0 = (e == 0) := ⟨_, rfl⟩
              have t3 : decide (lv < 0) = b0 := by
                rw [hb0]; have h1 := HLV.out
                exact Bool.eq_iff_iff.2 (by simp; omega)
              rw [← hb0] at HLE
              clear hb0
              by_cases hDb : D = b0
              · have HGD : Hid ((List.range (e + 1)).all (leaveB k us q) = true) := by rw [Hid, all_range_step, HA.out, HLE.out, hDb]; simp
                clear HLE HA
                subst hDb
                cases D
                all_goals (
                  go_wp2_with (first | (go_at_call 21; go_loud (refine (HCD.out _ HT.out).mono ?_; rintro e w4 ⟨rfl, hb⟩; have FB4 := Lib.hid (FB.out.below hb); clear hb c0 c1)))
                  go_roundg (q - e)
                  case measure => omega
                  case rel => exact ⟨e + 1, lv + 1, by omega, by simp, by have := HLV.out; rw [Hid]; omega, HGD, FB4⟩)
              · have HBD : Hid (clashF k ts l = false) := by
                  rw [Hid, HCL.out]
                  exact all_range_bad hlt (by rw [HLE.out]; cases D <;> cases b0 <;> simp at hDb ⊢)
                clear HLE HA
                cases D <;> cases b0
                all_goals (first
                  | (exact absurd rfl hDb)
                  | (clear hDb
                     go_wp2_with (first | (go_at_call 21; go_loud (refine (HCD.out _ HT.out).mono ?_; rintro e w4 ⟨rfl, hb⟩; have FB4 := Lib.hid (FB.out.below hb); clear hb c0 c1)))
                     go_ret
                     exact ⟨by rw [HE.out, HBD.out]; rfl, FB4.out.2⟩))
        · have t1 : decide (lv < (q : Int)) = false := decide_eq_false (by have := HLV.out; omega)
          have e5 : e = q + 1 := by omega
          rw [e5] at HA
          go_wp2_with fail
          go_ret
          exact ⟨by rw [HE.out, HCL.out, HA.out]; rfl, FB.out.2⟩
end Go.Proofs.YtjcafjffmiknmaaGreat
