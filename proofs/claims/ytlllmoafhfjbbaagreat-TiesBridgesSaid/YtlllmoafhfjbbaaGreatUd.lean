/- Layer 4: Same and Apart. -/
import Derived.Test.YtlllmoafhfjbbaaGreatUc
namespace Go.Proofs.YtlllmoafhfjbbaaGreat
set_option linter.unusedSimpArgs false
set_option linter.unusedVariables false
open Go Go.RowKit

def errA (n : Int) (ts : List TieD) (a b : Int) : Int := if okG n ts then (if ftB a 0 (n - 1) && ftB b 0 (n - 1) then 0 else 1) else 40
set_option maxRecDepth 100000 in
set_option maxHeartbeats 2000000 in
theorem tPair_any (n : Int) (a : Option Addr) (cap : Nat) (ts : List TieD) (x y : Int) (w : World) (hl : ts.length ≤ 9223372036854775807) (hs : TiesAt w a ts) :
    Calls Tryz.prog 35 #[gV n a ts.length cap, .int .i64 x, .int .i64 y] w fun e w' => e = .returned (.int .i64 (errA n ts x y)) ∧ Below w.heap.size w w' := by
  have HC : Hid (∀ W, Below w.heap.size w W → Calls Tryz.prog 6 #[gV n a ts.length cap] W fun e w' => e = .returned (.int .i64 (errG n ts)) ∧ Below W.heap.size W w') := fun W hb => tCheck_any n a cap ts W hl (hs.below hb)
  have HBE : Hid (okG n ts = true → ∃ x : Nat, n = x ∧ 1 ≤ n ∧ n ≤ 32) := fun h => by
    unfold okG ftB at h
    simp only [Bool.and_eq_true, decide_eq_true_eq] at h
    obtain ⟨x, rfl⟩ := Int.eq_ofNat_of_zero_le (by omega : 0 ≤ n)
    exact ⟨x, rfl, by omega, by omega⟩
  obtain ⟨m, hm⟩ : ∃ m, m = ts.length := ⟨_, rfl⟩
  unfold errG at HC
  unfold errA
  rw [← hm] at hl HC ⊢
  clear hm hs
  cases hok : okG n ts with
  | false =>
    rw [hok] at HC
    clear HBE hok
    go_enter Tryz.func35, Tryz.ntmps35
    simp only [gV] at HC ⊢
    go_wp2_with (first | (go_at_call 6; refine (HC.out _ ((Below.refl _ _).alloc (Nat.le_refl _) _)).mono ?_; rintro e w1 ⟨rfl, hb⟩; clear HC; have HB1 := Lib.hid hb; clear hb; simp only [Bool.false_eq_true, if_false]))
    go_ret
    exact ⟨rfl, ((Below.refl _ _).alloc (Nat.le_refl _) _).trans (HB1.out.mono (by simp))⟩
  | true =>
    obtain ⟨_, -, h1, h2⟩ := HBE.out hok
    rw [hok] at HC
    have HN : Hid (∀ x w, Calls Tryz.prog 56 #[.int .i64 x, .int .i64 n] w fun e w' => e = .returned (.bool (ftB x 0 (n - 1))) ∧ w = w') := fun x w => tNode_any x n w ⟨h1, h2⟩
    clear HBE hok h1 h2
    simp only [if_true]
    have hc : (ftB x 0 (n - 1) = false ∧ (if (ftB x 0 (n - 1) && ftB y 0 (n - 1)) = true then (0 : Int) else 1) = 1) ∨ (ftB x 0 (n - 1) = true ∧ ftB y 0 (n - 1) = false ∧ (if (ftB x 0 (n - 1) && ftB y 0 (n - 1)) = true then (0 : Int) else 1) = 1) ∨ (ftB x 0 (n - 1) = true ∧ ftB y 0 (n - 1) = true ∧ (if (ftB x 0 (n - 1) && ftB y 0 (n - 1)) = true then (0 : Int) else 1) = 0) := by
      cases ftB x 0 (n - 1) <;> cases ftB y 0 (n - 1) <;> simp
    rcases hc with ⟨q1, hr⟩ | ⟨q1, q2, hr⟩ | ⟨q1, q2, hr⟩
    all_goals (
      rw [hr]
      clear hr
      go_enter Tryz.func35, Tryz.ntmps35
      simp only [gV] at HC ⊢
      go_wp2_with (first | (go_at_call 6; refine (HC.out _ ((Below.refl _ _).alloc (Nat.le_refl _) _)).mono ?_; rintro e w1 ⟨rfl, hb⟩; clear HC; have c0 := ((Blk.new w [.int .i64 n, .slice a m cap] 24).below hb).cell (i := 0) rfl; have HB1 := Lib.hid hb; clear hb; simp only [if_true]) | (go_at_call 56; refine (HN.out _ _).mono ?_; rintro e w' ⟨rfl, rfl⟩; (try simp only [q1]); (try simp only [q2])))
      go_ret
      exact ⟨rfl, ((Below.refl _ _).alloc (Nat.le_refl _) _).trans (HB1.out.mono (by simp))⟩)
set_option maxRecDepth 100000 in
set_option maxHeartbeats 1000000 in
theorem joined_any (g : Nat) (l : List Int) (x y : Nat) (w : World) (hl : l.length ≤ 1000) (hg : NB w g l) (hx : x < l.length) (hy : y < l.length) :
    Calls Tryz.prog 34 #[.slice (some ⟨g, 0, none⟩) l.length l.length, .int .i64 x, .int .i64 y] w fun e w' => e = .returned (.bool (atI l x == atI l y)) ∧ Below w.heap.size w w' := by
  have hpx := atI_some (l := l) (i := (x : Int)) hx
  have hpy := atI_some (l := l) (i := (y : Int)) hy
  rw [Int.toNat_natCast] at hpx hpy
  have HXL := Lib.hid hx
  have HYL := Lib.hid hy
  obtain ⟨p, hp⟩ : ∃ p, p = atI l x := ⟨_, rfl⟩
  obtain ⟨q, hq⟩ : ∃ q, q = atI l y := ⟨_, rfl⟩
  rw [← hp] at hpx ⊢
  rw [← hq] at hpy ⊢
  have HCX : Hid (∀ W, Old w.drew W → W.cell? ⟨g, x, none⟩ = some (.int .i64 p)) := fun W h => by rw [Below.cell h (by exact hg.lt)]; exact hg.cell hpx
  have HCY : Hid (∀ W, Old w.drew W → W.cell? ⟨g, y, none⟩ = some (.int .i64 q)) := fun W h => by rw [Below.cell h (by exact hg.lt)]; exact hg.cell hpy
  obtain ⟨n, hn⟩ : ∃ n, n = l.length := ⟨_, rfl⟩
  rw [← hn] at hl HXL HYL ⊢
  clear hn hg hx hy hpx hpy hp hq
  obtain ⟨v, hv⟩ : ∃ v, v = (p == q) := ⟨_, rfl⟩
  rw [← hv]
  have HV : Hid (v = decide (p = q)) := by rw [Hid, hv]; rfl
  clear hv
  go_enter Tryz.func34, Tryz.ntmps34
  go_upto_region 1 with (fail)
  refine wp_region_old 10 16 (by kernel_rfl) (by kernel_rfl) (by rfl) ?_
  simp only [List.take_succ_cons, List.take_zero, List.drop_succ_cons, List.drop_zero, List.drop_nil]
  refine chain_move (.slice (some ⟨g, 0, none⟩) n n) _ (fun _ _ => Below.refl _ _) rfl rfl (by kernel_rfl) (by kernel_rfl) rfl ?_
  refine chain_move (.int .i64 x) _ (fun _ _ => Below.refl _ _) rfl rfl (by kernel_rfl) (by kernel_rfl) rfl ?_
  refine chain_idx (.pointer (some ⟨g, 0 + x, none⟩)) _ _ _ (.slice (some ⟨g, 0, none⟩) n n) (.int .i64 x) (fun _ _ => Below.refl _ _) rfl rfl (by kernel_rfl) (by kernel_rfl) rfl rfl (fun w1 => idx_grp _ _ _ _ _ HXL.out w1) ?_
  refine chain_load (.int .i64 p) _ _ _ (fun _ _ => Below.refl _ _) rfl rfl (by kernel_rfl) (by kernel_rfl) rfl (fun w1 hC => load_i64 (by rw [Nat.zero_add]; exact HCX.out _ hC)) ?_
  refine chain_move (.slice (some ⟨g, 0, none⟩) n n) _ (fun _ _ => Below.refl _ _) rfl rfl (by kernel_rfl) (by kernel_rfl) rfl ?_
  refine chain_move (.int .i64 y) _ (fun _ _ => Below.refl _ _) rfl rfl (by kernel_rfl) (by kernel_rfl) rfl ?_
  refine chain_idx (.pointer (some ⟨g, 0 + y, none⟩)) _ _ _ (.slice (some ⟨g, 0, none⟩) n n) (.int .i64 y) (fun _ _ => Below.refl _ _) rfl rfl (by kernel_rfl) (by kernel_rfl) rfl rfl (fun w1 => idx_grp _ _ _ _ _ HYL.out w1) ?_
  refine chain_load (.int .i64 q) _ _ _ (fun _ _ => Below.refl _ _) rfl rfl (by kernel_rfl) (by kernel_rfl) rfl (fun w1 hC => load_i64 (by rw [Nat.zero_add]; exact HCY.out _ hC)) ?_
  refine chain_bin (.bool v) _ _ _ _ _ (.int .i64 p) (.int .i64 q) (fun _ _ => Below.refl _ _) rfl rfl (by kernel_rfl) (by kernel_rfl) rfl rfl (fun w1 => eql_i64 _ _ _ _ _ _ HV.out w1) ?_
  refine chain_assign (.bool v) _ (fun _ _ => Below.refl _ _) rfl rfl (by kernel_rfl) (by kernel_rfl) rfl ?_
  refine chain_end (by rfl) ?_
  intro xs w1 hCw1 hrew1
  simp only [layE, List.foldr_cons, List.foldr_nil, List.set_cons_succ, List.set_cons_zero]
  have HO : Hid (Below w.heap.size w w1) := old_end (Below.refl w.heap.size w) hCw1 (Nat.le_refl _)
  clear hCw1 hrew1
  go_wp2_with fail
  go_ret
  exact ⟨rfl, HO.out⟩
end Go.Proofs.YtlllmoafhfjbbaaGreat
