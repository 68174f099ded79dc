/- Layer 6: the specification's Finer and Meet. -/
import Derived.Test.YteojbichibdhjacGreatDoorLf
namespace Go.Proofs.YteojbichibdhjacGreatDoor
set_option linter.unusedSimpArgs false
set_option linter.unusedVariables false
open Go Go.RowKit

/-- No pair so far tells against it. -/
def FinP (la lb : List Int) (i k : Nat) : Prop := ∀ (p q : Nat) (x y z : Int), q < p → (p < i ∨ p = i ∧ q < k) → la[p]? = some x → la[q]? = some x → lb[p]? = some y → lb[q]? = some z → y = z
theorem FinP.start (la lb : List Int) : FinP la lb 0 0 := fun p q x y z h1 h2 => by omega
theorem FinP.next {la lb : List Int} {i : Nat} (h : FinP la lb i i) : FinP la lb (i + 1) 0 := fun p q x y z h1 h2 => h p q x y z h1 (by omega)
theorem FinP.step {la lb : List Int} {i k : Nat} {xi xk yi yk : Int} (h : FinP la lb i k) (h1 : la[i]? = some xi) (h2 : la[k]? = some xk) (h3 : lb[i]? = some yi) (h4 : lb[k]? = some yk) (hq : xi = xk → yi = yk) : FinP la lb i (k + 1) := fun p q x y z g1 g2 g3 g4 g5 g6 => by
  by_cases he : p = i ∧ q = k
  · obtain ⟨rfl, rfl⟩ := he
    rw [h1] at g3; rw [h2] at g4; rw [h3] at g5; rw [h4] at g6
    injection g3 with g3; injection g4 with g4; injection g5 with g5; injection g6 with g6
    rw [← g5, ← g6]; exact hq (by rw [g3, g4])
  · exact h p q x y z g1 (by omega) g3 g4 g5 g6
set_option maxRecDepth 100000 in
set_option maxHeartbeats 4000000 in
theorem rfiner_any (a b : Option Addr) (ca cb : Nat) (la lb : List Int) (w : World) (hla : la.length ≤ 1000) (hlb : lb.length ≤ 1000) (hs : IntsAt w a la) (ht : IntsAt w b lb) :
    Calls Tryz.prog 6 #[.slice a la.length ca, .slice b lb.length cb] w fun e w' => e = .returned (.tuple #[.bool (finR la lb), .int .i64 (errB la lb)]) ∧ Below w.heap.size w w' := by
  have HB0 := Lib.hid (rboth_any a b ca cb la lb w hla hlb hs ht)
  have HS := Lib.hid hs
  have HT := Lib.hid ht
  unfold finR
  rcases errB_split la lb with ⟨he, h1, h2, h3⟩ | ⟨he, _⟩
  · obtain ⟨g1, g2, g3⟩ := okP_nrm h1
    have HYES : Hid (FinP la lb la.length 0 → finB la lb = true) := fun h => finB_yes h3 (okP_small h2) g3 fun p q x y z hqp q1 q2 q3 q4 => h p q x y z hqp (by have := (List.getElem?_eq_some_iff.1 q1).1; omega) q1 q2 q3 q4
    have HNO : Hid (∀ (i k : Nat) (x y z : Int), la[i]? = some x → la[k]? = some x → lb[i]? = some y → lb[k]? = some z → y ≠ z → finB la lb = false) := fun i k x y z q1 q2 q3 q4 q5 => finB_no h3 (okP_small h2) q1 q2 q3 q4 q5
    rw [he] at HB0 ⊢
    simp only [if_true]
    generalize finB la lb = r at *
    obtain ⟨n, hn⟩ : ∃ n, n = la.length := ⟨_, rfl⟩
    rw [← hn] at HB0 HYES h3 g2 hla ⊢
    rw [← h3] at HB0 hlb ⊢
    have HN : Hid (n = la.length ∧ n = lb.length) := ⟨hn, h3⟩
    clear hn hs ht he h1 h2 h3 g1 g3 hlb
    go_enter Tryz.func6, Tryz.ntmps6
    go_wp2_with (first | (go_at_call 22; refine HB0.out.mono ?_; rintro e w1 ⟨rfl, rfl⟩; clear HB0))
    go_loopw [7] (fun ti wr => ∃ i : Nat, i ≤ n ∧ ti = .int .i64 i ∧ Hid (FinP la lb i 0) ∧ Hid (Below w.heap.size w wr)) (fun ti _ => n - (intOf ti).toNat)
    case atStart => exact ⟨0, by omega, rfl, FinP.start _ _, Below.refl _ _⟩
    case round =>
      obtain ⟨i, hi, rfl, HF, HB⟩ := hrel
      by_cases hlt : i < n
      · have t3 : decide (i < n) = true := decide_eq_true hlt
        go_wp2_with fail
        go_loopw [8] (fun ti wx => ∃ k : Nat, k ≤ i ∧ ti = .int .i64 k ∧ Hid (FinP la lb i k) ∧ Hid (Below w.heap.size w wx)) (fun ti _ => i - (intOf ti).toNat)
        case atStart => exact ⟨0, by omega, rfl, HF.out, HB.out⟩
        case round =>
          obtain ⟨k, hk, rfl, HF, HB⟩ := hrel
          by_cases hki : k < i
          · have hia : i < la.length := by rw [← HN.out.1]; exact hlt
            have hka : k < la.length := by rw [← HN.out.1]; omega
            have hib : i < lb.length := by rw [← HN.out.2]; exact hlt
            have hkb : k < lb.length := by rw [← HN.out.2]; omega
            obtain ⟨b1, o1, rfl, l1, c1⟩ := (HS.out.below HB.out).at hia
            obtain ⟨b1', o1', e1, _, c2⟩ := (HS.out.below HB.out).at hka
            obtain ⟨b2, o2, rfl, l2, c3⟩ := (HT.out.below HB.out).at hib
            obtain ⟨b2', o2', e2, _, c4⟩ := (HT.out.below HB.out).at hkb
            simp only [Option.some.injEq, Addr.mk.injEq, and_true] at e1 e2
            obtain ⟨rfl, rfl⟩ := e1
            obtain ⟨rfl, rfl⟩ := e2
            have G1 := Lib.hid (List.getElem?_eq_getElem hia)
            have G2 := Lib.hid (List.getElem?_eq_getElem hka)
            have G3 := Lib.hid (List.getElem?_eq_getElem hib)
            have G4 := Lib.hid (List.getElem?_eq_getElem hkb)
            generalize la[i] = xi at *
            generalize la[k] = xk at *
            generalize lb[i] = yi at *
            generalize lb[k] = yk at *
            have HC : Hid (∀ W, Old wr.drew W → W.cell? ⟨b1, o1 + i, none⟩ = some (.int .i64 xi) ∧ W.cell? ⟨b1, o1 + k, none⟩ = some (.int .i64 xk) ∧ W.cell? ⟨b2, o2 + i, none⟩ = some (.int .i64 yi) ∧ W.cell? ⟨b2, o2 + k, none⟩ = some (.int .i64 yk)) := fun W h =>
              ⟨by rw [Below.cell h (by exact l1)]; exact c1, by rw [Below.cell h (by exact l1)]; exact c2, by rw [Below.cell h (by exact l2)]; exact c3, by rw [Below.cell h (by exact l2)]; exact c4⟩
            have HLT : Hid (i < n ∧ k < n) := ⟨hlt, by omega⟩
            clear hia hka hib hkb c1 c2 c3 c4 l1 l2
            have t4 : decide (k < i) = true := decide_eq_true hki
            by_cases hx : xi = xk
            · have HQ1 : Hid (true = decide (xi = xk)) := (decide_eq_true hx).symm
              by_cases hy : yi = yk
              · have HQ2 : Hid (false = !decide (yi = yk)) := by rw [Hid, decide_eq_true hy]; rfl
                have HF2 := Lib.hid (HF.out.step G1.out G2.out G3.out G4.out fun _ => hy)
                clear hx hy
                go_upto_region 10 with (fail)
                refine wp_region_old 20 46 (by kernel_rfl) (by kernel_rfl) (by rfl) ?_
                simp only [List.take_succ_cons, List.take_zero, List.drop_succ_cons, List.drop_zero, List.drop_nil]
                refine chain_move (.slice (some ⟨b1, o1, none⟩) n ca) _ (fun _ _ => Below.refl _ _) rfl rfl (by kernel_rfl) (by kernel_rfl) rfl ?_
                refine chain_move (.int .i64 i) _ (fun _ _ => Below.refl _ _) rfl rfl (by kernel_rfl) (by kernel_rfl) rfl ?_
                refine chain_idx (.pointer (some ⟨b1, o1 + i, none⟩)) _ _ _ (.slice (some ⟨b1, o1, none⟩) n ca) (.int .i64 i) (fun _ _ => Below.refl _ _) rfl rfl (by kernel_rfl) (by kernel_rfl) rfl rfl (fun w1 => idx_i64 _ _ _ _ _ HLT.out.1 w1) ?_
                refine chain_load (.int .i64 xi) _ _ _ (fun _ _ => Below.refl _ _) rfl rfl (by kernel_rfl) (by kernel_rfl) rfl (fun w1 hC => load_i64 (HC.out _ hC).1) ?_
                refine chain_move (.slice (some ⟨b1, o1, none⟩) n ca) _ (fun _ _ => Below.refl _ _) rfl rfl (by kernel_rfl) (by kernel_rfl) rfl ?_
                refine chain_move (.int .i64 k) _ (fun _ _ => Below.refl _ _) rfl rfl (by kernel_rfl) (by kernel_rfl) rfl ?_
                refine chain_idx (.pointer (some ⟨b1, o1 + k, none⟩)) _ _ _ (.slice (some ⟨b1, o1, none⟩) n ca) (.int .i64 k) (fun _ _ => Below.refl _ _) rfl rfl (by kernel_rfl) (by kernel_rfl) rfl rfl (fun w1 => idx_i64 _ _ _ _ _ HLT.out.2 w1) ?_
                refine chain_load (.int .i64 xk) _ _ _ (fun _ _ => Below.refl _ _) rfl rfl (by kernel_rfl) (by kernel_rfl) rfl (fun w1 hC => load_i64 (HC.out _ hC).2.1) ?_
                refine chain_bin (.bool true) _ _ _ _ _ (.int .i64 xi) (.int .i64 xk) (fun _ _ => Below.refl _ _) rfl rfl (by kernel_rfl) (by kernel_rfl) rfl rfl (fun w1 => eql_i64 _ _ _ _ _ _ HQ1.out w1) ?_
                refine chain_move (.bool true) _ (fun _ _ => Below.refl _ _) rfl rfl (by kernel_rfl) (by kernel_rfl) rfl ?_
                refine chain_move (.slice (some ⟨b2, o2, none⟩) n cb) _ (fun _ _ => Below.refl _ _) rfl rfl (by kernel_rfl) (by kernel_rfl) rfl ?_
                refine chain_move (.int .i64 i) _ (fun _ _ => Below.refl _ _) rfl rfl (by kernel_rfl) (by kernel_rfl) rfl ?_
                refine chain_idx (.pointer (some ⟨b2, o2 + i, none⟩)) _ _ _ (.slice (some ⟨b2, o2, none⟩) n cb) (.int .i64 i) (fun _ _ => Below.refl _ _) rfl rfl (by kernel_rfl) (by kernel_rfl) rfl rfl (fun w1 => idx_i64 _ _ _ _ _ HLT.out.1 w1) ?_
                refine chain_load (.int .i64 yi) _ _ _ (fun _ _ => Below.refl _ _) rfl rfl (by kernel_rfl) (by kernel_rfl) rfl (fun w1 hC => load_i64 (HC.out _ hC).2.2.1) ?_
                refine chain_move (.slice (some ⟨b2, o2, none⟩) n cb) _ (fun _ _ => Below.refl _ _) rfl rfl (by kernel_rfl) (by kernel_rfl) rfl ?_
                refine chain_move (.int .i64 k) _ (fun _ _ => Below.refl _ _) rfl rfl (by kernel_rfl) (by kernel_rfl) rfl ?_
                refine chain_idx (.pointer (some ⟨b2, o2 + k, none⟩)) _ _ _ (.slice (some ⟨b2, o2, none⟩) n cb) (.int .i64 k) (fun _ _ => Below.refl _ _) rfl rfl (by kernel_rfl) (by kernel_rfl) rfl rfl (fun w1 => idx_i64 _ _ _ _ _ HLT.out.2 w1) ?_
                refine chain_load (.int .i64 yk) _ _ _ (fun _ _ => Below.refl _ _) rfl rfl (by kernel_rfl) (by kernel_rfl) rfl (fun w1 hC => load_i64 (HC.out _ hC).2.2.2) ?_
                refine chain_bin (.bool false) _ _ _ _ _ (.int .i64 yi) (.int .i64 yk) (fun _ _ => Below.refl _ _) rfl rfl (by kernel_rfl) (by kernel_rfl) rfl rfl (fun w1 => neq_i64 _ _ _ _ _ _ HQ2.out w1) ?_
                refine chain_pick (.bool false) _ _ _ true (fun _ _ => Below.refl _ _) rfl rfl (by kernel_rfl) (by kernel_rfl) rfl rfl ?_
                refine chain_end (by rfl) ?_
                intro xs w1 hCw1 hrew1
                simp only [layE, List.foldr_cons, List.foldr_nil, List.set_cons_succ, List.set_cons_zero]
                have HB1 := Lib.hid (old_end HB.out hCw1 HB.out.size)
                clear hCw1 hrew1 HC
                go_wp2_with fail
                exact ⟨⟨k + 1, by omega, by simp, HF2.out, HB1.out⟩, by simp [intOf]; omega⟩
              · have HQ2 : Hid (true = !decide (yi = yk)) := by rw [Hid, decide_eq_false hy]; rfl
                have HR : Hid (r = false) := HNO.out i k xi yi yk G1.out (by rw [hx]; exact G2.out) G3.out G4.out hy
                clear hx hy
                go_upto_region 10 with (fail)
                refine wp_region_old 20 46 (by kernel_rfl) (by kernel_rfl) (by rfl) ?_
                simp only [List.take_succ_cons, List.take_zero, List.drop_succ_cons, List.drop_zero, List.drop_nil]
                refine chain_move (.slice (some ⟨b1, o1, none⟩) n ca) _ (fun _ _ => Below.refl _ _) rfl rfl (by kernel_rfl) (by kernel_rfl) rfl ?_
                refine chain_move (.int .i64 i) _ (fun _ _ => Below.refl _ _) rfl rfl (by kernel_rfl) (by kernel_rfl) rfl ?_
                refine chain_idx (.pointer (some ⟨b1, o1 + i, none⟩)) _ _ _ (.slice (some ⟨b1, o1, none⟩) n ca) (.int .i64 i) (fun _ _ => Below.refl _ _) rfl rfl (by kernel_rfl) (by kernel_rfl) rfl rfl (fun w1 => idx_i64 _ _ _ _ _ HLT.out.1 w1) ?_
                refine chain_load (.int .i64 xi) _ _ _ (fun _ _ => Below.refl _ _) rfl rfl (by kernel_rfl) (by kernel_rfl) rfl (fun w1 hC => load_i64 (HC.out _ hC).1) ?_
                refine chain_move (.slice (some ⟨b1, o1, none⟩) n ca) _ (fun _ _ => Below.refl _ _) rfl rfl (by kernel_rfl) (by kernel_rfl) rfl ?_
                refine chain_move (.int .i64 k) _ (fun _ _ => Below.refl _ _) rfl rfl (by kernel_rfl) (by kernel_rfl) rfl ?_
                refine chain_idx (.pointer (some ⟨b1, o1 + k, none⟩)) _ _ _ (.slice (some ⟨b1, o1, none⟩) n ca) (.int .i64 k) (fun _ _ => Below.refl _ _) rfl rfl (by kernel_rfl) (by kernel_rfl) rfl rfl (fun w1 => idx_i64 _ _ _ _ _ HLT.out.2 w1) ?_
                refine chain_load (.int .i64 xk) _ _ _ (fun _ _ => Below.refl _ _) rfl rfl (by kernel_rfl) (by kernel_rfl) rfl (fun w1 hC => load_i64 (HC.out _ hC).2.1) ?_
                refine chain_bin (.bool true) _ _ _ _ _ (.int .i64 xi) (.int .i64 xk) (fun _ _ => Below.refl _ _) rfl rfl (by kernel_rfl) (by kernel_rfl) rfl rfl (fun w1 => eql_i64 _ _ _ _ _ _ HQ1.out w1) ?_
                refine chain_move (.bool true) _ (fun _ _ => Below.refl _ _) rfl rfl (by kernel_rfl) (by kernel_rfl) rfl ?_
                refine chain_move (.slice (some ⟨b2, o2, none⟩) n cb) _ (fun _ _ => Below.refl _ _) rfl rfl (by kernel_rfl) (by kernel_rfl) rfl ?_
                refine chain_move (.int .i64 i) _ (fun _ _ => Below.refl _ _) rfl rfl (by kernel_rfl) (by kernel_rfl) rfl ?_
                refine chain_idx (.pointer (some ⟨b2, o2 + i, none⟩)) _ _ _ (.slice (some ⟨b2, o2, none⟩) n cb) (.int .i64 i) (fun _ _ => Below.refl _ _) rfl rfl (by kernel_rfl) (by kernel_rfl) rfl rfl (fun w1 => idx_i64 _ _ _ _ _ HLT.out.1 w1) ?_
                refine chain_load (.int .i64 yi) _ _ _ (fun _ _ => Below.refl _ _) rfl rfl (by kernel_rfl) (by kernel_rfl) rfl (fun w1 hC => load_i64 (HC.out _ hC).2.2.1) ?_
                refine chain_move (.slice (some ⟨b2, o2, none⟩) n cb) _ (fun _ _ => Below.refl _ _) rfl rfl (by kernel_rfl) (by kernel_rfl) rfl ?_
                refine chain_move (.int .i64 k) _ (fun _ _ => Below.refl _ _) rfl rfl (by kernel_rfl) (by kernel_rfl) rfl ?_
                refine chain_idx (.pointer (some ⟨b2, o2 + k, none⟩)) _ _ _ (.slice (some ⟨b2, o2, none⟩) n cb) (.int .i64 k) (fun _ _ => Below.refl _ _) rfl rfl (by kernel_rfl) (by kernel_rfl) rfl rfl (fun w1 => idx_i64 _ _ _ _ _ HLT.out.2 w1) ?_
                refine chain_load (.int .i64 yk) _ _ _ (fun _ _ => Below.refl _ _) rfl rfl (by kernel_rfl) (by kernel_rfl) rfl (fun w1 hC => load_i64 (HC.out _ hC).2.2.2) ?_
                refine chain_bin (.bool true) _ _ _ _ _ (.int .i64 yi) (.int .i64 yk) (fun _ _ => Below.refl _ _) rfl rfl (by kernel_rfl) (by kernel_rfl) rfl rfl (fun w1 => neq_i64 _ _ _ _ _ _ HQ2.out w1) ?_
                refine chain_pick (.bool true) _ _ _ true (fun _ _ => Below.refl _ _) rfl rfl (by kernel_rfl) (by kernel_rfl) rfl rfl ?_
                refine chain_end (by rfl) ?_
                intro xs w1 hCw1 hrew1
                simp only [layE, List.foldr_cons, List.foldr_nil, List.set_cons_succ, List.set_cons_zero]
                have HB1 := Lib.hid (old_end HB.out hCw1 HB.out.size)
                clear hCw1 hrew1 HC
                go_wp2_with fail
                go_ret2
                exact ⟨by rw [HR.out]; rfl, HB1.out⟩
            · have HQ1 : Hid (false = decide (xi = xk)) := (decide_eq_false hx).symm
              have HF2 := Lib.hid (HF.out.step G1.out G2.out G3.out G4.out fun h => absurd h hx)
              clear hx
              go_upto_region 10 with (fail)
              refine wp_region_old 20 46 (by kernel_rfl) (by kernel_rfl) (by rfl) ?_
              simp only [List.take_succ_cons, List.take_zero, List.drop_succ_cons, List.drop_zero, List.drop_nil]
              refine chain_move (.slice (some ⟨b1, o1, none⟩) n ca) _ (fun _ _ => Below.refl _ _) rfl rfl (by kernel_rfl) (by kernel_rfl) rfl ?_
              refine chain_move (.int .i64 i) _ (fun _ _ => Below.refl _ _) rfl rfl (by kernel_rfl) (by kernel_rfl) rfl ?_
              refine chain_idx (.pointer (some ⟨b1, o1 + i, none⟩)) _ _ _ (.slice (some ⟨b1, o1, none⟩) n ca) (.int .i64 i) (fun _ _ => Below.refl _ _) rfl rfl (by kernel_rfl) (by kernel_rfl) rfl rfl (fun w1 => idx_i64 _ _ _ _ _ HLT.out.1 w1) ?_
              refine chain_load (.int .i64 xi) _ _ _ (fun _ _ => Below.refl _ _) rfl rfl (by kernel_rfl) (by kernel_rfl) rfl (fun w1 hC => load_i64 (HC.out _ hC).1) ?_
              refine chain_move (.slice (some ⟨b1, o1, none⟩) n ca) _ (fun _ _ => Below.refl _ _) rfl rfl (by kernel_rfl) (by kernel_rfl) rfl ?_
              refine chain_move (.int .i64 k) _ (fun _ _ => Below.refl _ _) rfl rfl (by kernel_rfl) (by kernel_rfl) rfl ?_
              refine chain_idx (.pointer (some ⟨b1, o1 + k, none⟩)) _ _ _ (.slice (some ⟨b1, o1, none⟩) n ca) (.int .i64 k) (fun _ _ => Below.refl _ _) rfl rfl (by kernel_rfl) (by kernel_rfl) rfl rfl (fun w1 => idx_i64 _ _ _ _ _ HLT.out.2 w1) ?_
              refine chain_load (.int .i64 xk) _ _ _ (fun _ _ => Below.refl _ _) rfl rfl (by kernel_rfl) (by kernel_rfl) rfl (fun w1 hC => load_i64 (HC.out _ hC).2.1) ?_
              refine chain_bin (.bool false) _ _ _ _ _ (.int .i64 xi) (.int .i64 xk) (fun _ _ => Below.refl _ _) rfl rfl (by kernel_rfl) (by kernel_rfl) rfl rfl (fun w1 => eql_i64 _ _ _ _ _ _ HQ1.out w1) ?_
              refine chain_move (.bool false) _ (fun _ _ => Below.refl _ _) rfl rfl (by kernel_rfl) (by kernel_rfl) rfl ?_
              refine chain_skip rfl (by kernel_rfl) ?_
              refine chain_skip rfl (by kernel_rfl) ?_
              refine chain_skip rfl (by kernel_rfl) ?_
              refine chain_skip rfl (by kernel_rfl) ?_
              refine chain_skip rfl (by kernel_rfl) ?_
              refine chain_skip rfl (by kernel_rfl) ?_
              refine chain_skip rfl (by kernel_rfl) ?_
              refine chain_skip rfl (by kernel_rfl) ?_
              refine chain_skip rfl (by kernel_rfl) ?_
              refine chain_pick (.bool false) _ _ _ false (fun _ _ => Below.refl _ _) rfl rfl (by kernel_rfl) (by kernel_rfl) rfl rfl ?_
              refine chain_end (by rfl) ?_
              intro xs w1 hCw1 hrew1
              simp only [layE, List.foldr_cons, List.foldr_nil, List.set_cons_succ, List.set_cons_zero]
              have HB1 := Lib.hid (old_end HB.out hCw1 HB.out.size)
              clear hCw1 hrew1 HC
              go_wp2_with fail
              exact ⟨⟨k + 1, by omega, by simp, HF2.out, HB1.out⟩, by simp [intOf]; omega⟩
          · have e : k = i := by omega
            subst e
            have t4 : decide (k < k) = false := decide_eq_false (by omega)
            have HF2 := Lib.hid HF.out.next
            go_wp2_with fail
            exact ⟨⟨k + 1, by omega, by simp, HF2.out, HB.out⟩, by simp [intOf]; omega⟩
      · have e : i = n := by omega
        subst e
        have HR : Hid (r = true) := HYES.out HF.out
        have t3 : decide (i < i) = false := decide_eq_false (by omega)
        go_wp2_with fail
        go_ret2
        exact ⟨by rw [HR.out]; rfl, HB.out⟩
  · rw [he] at HB0 ⊢
    rw [if_neg (by decide)]
    clear hs ht he
    go_enter Tryz.func6, Tryz.ntmps6
    go_wp2_with (first | (go_at_call 22; refine HB0.out.mono ?_; rintro e w1 ⟨rfl, rfl⟩; clear HB0))
    go_ret2
    exact ⟨rfl, Below.refl _ _⟩
end Go.Proofs.YteojbichibdhjacGreatDoor
