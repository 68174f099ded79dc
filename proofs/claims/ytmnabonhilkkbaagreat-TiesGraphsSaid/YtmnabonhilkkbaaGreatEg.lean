/- Layer 4: the specification's Valid and Check. -/
import Derived.Test.YtmnabonhilkkbaaGreatEe
namespace Go.Proofs.YtmnabonhilkkbaaGreat
set_option linter.unusedSimpArgs false
set_option linter.unusedVariables false
open Go Go.RowKit

theorem rBet_any (n lo hi : Int) (w : World) :
    Calls Tryz.prog 39 #[.int .i64 n, .int .i64 lo, .int .i64 hi] w fun e w' => e = .returned (.bool (ftB n lo hi)) ∧ w = w' := by
  by_cases h : lo ≤ n
  · go_enter Tryz.func39, Tryz.ntmps39
    go_wp2
    go_ret
    exact ⟨by simp [ftB, h], rfl⟩
  · go_enter Tryz.func39, Tryz.ntmps39
    go_wp2
    go_ret
    exact ⟨by simp [ftB]; omega, rfl⟩
theorem kind_two (k : Int) : ftB k 1 2 = (k == 2 || k == 1) := by
  unfold ftB
  rw [Bool.eq_iff_iff]
  simp only [Bool.and_eq_true, Bool.or_eq_true, decide_eq_true_eq, beq_iff_eq]
  omega
theorem tie_cases2 (t : TieD) (n : Int) : (ftB t.a 0 (n - 1) = false ∧ tieB t n = false) ∨ (ftB t.a 0 (n - 1) = true ∧ ftB t.b 0 (n - 1) = false ∧ tieB t n = false) ∨ (ftB t.a 0 (n - 1) = true ∧ ftB t.b 0 (n - 1) = true ∧ t.a = t.b ∧ tieB t n = false) ∨
    (ftB t.a 0 (n - 1) = true ∧ ftB t.b 0 (n - 1) = true ∧ (t.a == t.b) = false ∧ ((ftB t.kind 1 2 = false ∧ tieB t n = false) ∨
      (ftB t.kind 1 2 = true ∧ ftB t.str 1 100 = false ∧ tieB t n = false) ∨ (ftB t.kind 1 2 = true ∧ ftB t.str 1 100 = true ∧ ftB t.src 0 4095 = false ∧ tieB t n = false) ∨ (ftB t.kind 1 2 = true ∧ ftB t.str 1 100 = true ∧ ftB t.src 0 4095 = true ∧ tieB t n = true))) := by
  rw [kind_two]
  unfold tieB
  cases ftB t.a 0 (n - 1) <;> cases ftB t.b 0 (n - 1) <;> by_cases h : t.a = t.b <;> cases (t.kind == 2 || t.kind == 1) <;> cases ftB t.str 1 100 <;> cases ftB t.src 0 4095 <;> simp [h]
set_option maxRecDepth 100000 in
set_option maxHeartbeats 2000000 in
theorem rValid_any (t : TieD) (n : Int) (w : World) (hn : 1 ≤ n ∧ n ≤ 32) :
    Calls Tryz.prog 34 #[tieV t, .int .i64 n] w fun e w' => e = .returned (.bool (tieB t n)) ∧ Below w.heap.size w w' := by
  have hc := tie_cases2 t n
  obtain ⟨m, rfl⟩ : ∃ m : Nat, n = ((m + 1 : Nat) : Int) := ⟨(n - 1).toNat, by omega⟩
  have hm : m < 32 := by omega
  clear hn
  have em : ((m + 1 : Nat) : Int) - 1 = (m : Int) := by omega
  rw [em] at hc
  clear em
  obtain ⟨a, b, kd, st, sr⟩ := t
  simp only at hc
  rcases hc with ⟨h1, hr⟩ | ⟨h1, h2, hr⟩ | ⟨h1, h2, rfl, hr⟩ | ⟨h1, h2, h3, ⟨h4, hr⟩ | ⟨h4, h6, hr⟩ | ⟨h4, h6, h7, hr⟩ | ⟨h4, h6, h7, hr⟩⟩
  all_goals (
    rw [hr]
    clear hr
    try (have t3 : (a != b) = true := by simpa using h3)
    go_enter Tryz.func34, Tryz.ntmps34
    simp only [tieV]
    go_wp2_with (first | (go_at_call 39; refine (rBet_any _ _ _ _).mono ?_; rintro e w' ⟨rfl, rfl⟩; (try simp only [h1]); (try simp only [h2]); (try simp only [h4]); (try simp only [h6]); (try simp only [h7])))
    all_goals (
      go_ret
      exact ⟨rfl, (Below.refl _ _).alloc (Nat.le_refl _) _⟩))
theorem load_tie {w : World} {b o : Nat} {t : TieD} (h0 : w.cell? ⟨b, o, none⟩ = some (.int .i64 t.a)) (h1 : w.cell? ⟨b, o + 1, none⟩ = some (.int .i64 t.b)) (h2 : w.cell? ⟨b, o + 2, none⟩ = some (.int .i64 t.kind)) (h3 : w.cell? ⟨b, o + 3, none⟩ = some (.int .i64 t.str)) (h4 : w.cell? ⟨b, o + 4, none⟩ = some (.int .i64 t.src)) :
    (Instr.loadAt 26 (.pointer (some ⟨b, o, none⟩))).run Tryz.prog w = .ok (tieV t) w := by
  simp [go_sem, Instr.loadAt, h0, h1, h2, h3, h4, tieV]
theorem idx_tie (b o n cap k : Nat) (h : k < n) (w : World) : (Instr.indexAt 22 (.slice (some ⟨b, o, none⟩) n cap) (.int .i64 k)).run Tryz.prog w = .ok (.pointer (some ⟨b, o + k * 5, none⟩)) w := by
  simp [go_sem, Instr.indexAt, h]
theorem un_not (a : Bool) (w : World) : (Op.unary .not (.bool a)).run Tryz.prog w = .ok (.bool (!a)) w := by
  simp [go_sem, Op.unary]
theorem load_slt {w : World} {b o : Nat} {a : Option Addr} {len cap : Nat} (h : w.cell? ⟨b, o, none⟩ = some (.slice a len cap)) : (Instr.loadAt 22 (.pointer (some ⟨b, o, none⟩))).run Tryz.prog w = .ok (.slice a len cap) w := by
  simp [go_sem, Instr.loadAt, h]
set_option maxRecDepth 100000 in
set_option maxHeartbeats 2000000 in
theorem rCheck_any (n : Int) (a : Option Addr) (cap : Nat) (ts : List TieD) (w : World) (hl : ts.length ≤ 9223372036854775807) (hs : TiesAt w a ts) :
    Calls Tryz.prog 14 #[gV n a ts.length cap] w fun e w' => e = .returned (.int .i64 (errG n ts)) ∧ Below w.heap.size w w' := by
  have HS := Lib.hid hs
  obtain ⟨m, hm⟩ : ∃ m, m = ts.length := ⟨_, rfl⟩
  have HOK : Hid (okG n ts = (ftB n 1 32 && decide (m ≤ 512) && ts.all (tieB · n))) := by rw [hm]; rfl
  unfold errG
  rw [← hm] at hl ⊢
  have HM := Lib.hid hm
  clear hs hm
  cases h1 : ftB n 1 32 with
  | false =>
    have HR : Hid (okG n ts = false) := by rw [Hid, HOK.out, h1]; rfl
    rw [HR.out]
    go_enter Tryz.func14, Tryz.ntmps14
    simp only [gV]
    go_wp2_with (first | (go_at_call 39; refine (rBet_any _ _ _ _).mono ?_; rintro e w' ⟨rfl, rfl⟩; simp only [h1]))
    go_ret
    exact ⟨rfl, (Below.refl _ _).alloc (Nat.le_refl _) _⟩
  | true =>
  by_cases h2 : m ≤ 512
  case neg =>
    have HR : Hid (okG n ts = false) := by rw [Hid, HOK.out, h1, decide_eq_false h2]; rfl
    rw [HR.out]
    have t2 : decide (512 < m) = true := decide_eq_true (by omega)
    go_enter Tryz.func14, Tryz.ntmps14
    simp only [gV]
    go_wp2_with (first | (go_at_call 39; refine (rBet_any _ _ _ _).mono ?_; rintro e w' ⟨rfl, rfl⟩; simp only [h1]))
    go_ret
    exact ⟨rfl, (Below.refl _ _).alloc (Nat.le_refl _) _⟩
  case pos =>
    have t2 : decide (512 < m) = false := decide_eq_false (by omega)
    have HR : Hid (okG n ts = ts.all (tieB · n)) := by rw [Hid, HOK.out, h1, decide_eq_true h2]; rfl
    rw [HR.out]
    obtain ⟨E, hE⟩ : ∃ E : Int, E = if ts.all (tieB · n) = true then 0 else 40 := ⟨_, rfl⟩
    have HEE := Lib.hid hE
    rw [← hE]
    clear hE
    have hn : 1 ≤ n ∧ n ≤ 32 := by unfold ftB at h1; simp only [Bool.and_eq_true, decide_eq_true_eq] at h1; exact h1
    have HT : Hid (∀ t W, Calls Tryz.prog 34 #[tieV t, .int .i64 n] W fun e w' => e = .returned (.bool (tieB t n)) ∧ Below W.heap.size W w') := fun t W => rValid_any t n W hn
    clear hn HOK HR
    go_enter Tryz.func14, Tryz.ntmps14
    simp only [gV]
    go_wp2_with (first | (go_at_call 39; refine (rBet_any _ _ _ _).mono ?_; rintro e w' ⟨rfl, rfl⟩; simp only [h1]))
    go_loopw [3] (fun ti wr => ∃ k : Nat, k ≤ m ∧ ti = .int .i64 k ∧ Hid ((ts.take k).all (tieB · n) = true) ∧ Blk wr w.heap.size [.int .i64 n, .slice a m cap] 24 ∧ Hid (Below w.heap.size w wr)) (fun ti _ => m - (intOf ti).toNat)
    case atStart => exact ⟨0, by omega, rfl, rfl, Blk.new w _ _, (Below.refl _ _).alloc (Nat.le_refl _) _⟩
    case round =>
      obtain ⟨k, hk, rfl, HA, hbk, HB⟩ := hrel
      have d0 := hbk.cell (i := 0) rfl
      have d1 := hbk.cell (i := 1) rfl
      have HK := Lib.hid hbk
      clear hbk
      by_cases hlt : k < m
      · have hkl : k < ts.length := by rw [← HM.out]; exact hlt
        have HAS : Hid ((ts.take (k + 1)).all (tieB · n) = tieB ts[k] n) := by rw [Hid, tall_step hkl, HA.out, Bool.true_and]
        have HBAD : Hid (tieB ts[k] n = false → ts.all (tieB · n) = false) := tall_bad hkl
        obtain ⟨lb, lo, rfl, hlb, c0, c1, c2, c3, c4⟩ := (HS.out.below HB.out).at hkl
        obtain ⟨x, hx⟩ : ∃ x, x = ts[k] := ⟨_, rfl⟩
        rw [← hx] at HAS HBAD c0 c1 c2 c3 c4
        have HC := Lib.hid fun W => HT.out x W
        obtain ⟨p, hp⟩ : ∃ p, p = tieB x n := ⟨_, rfl⟩
        rw [← hp] at HAS HBAD HC
        have HLD : Hid (∀ W, Old wr.drew W → (Instr.loadAt 26 (.pointer (some ⟨lb, lo + k * 5, none⟩))).run Tryz.prog W = .ok (tieV x) W) := fun W h => load_tie (by rw [Below.cell h (by exact hlb)]; exact c0) (by rw [Below.cell h (by exact hlb)]; exact c1) (by rw [Below.cell h (by exact hlb)]; exact c2) (by rw [Below.cell h (by exact hlb)]; exact c3) (by rw [Below.cell h (by exact hlb)]; exact c4)
        have HLT : Hid (k < m) := hlt
        clear hx hkl HA hp HT c0 c1 c2 c3 c4 hlb
        have t3 : decide (k < m) = true := decide_eq_true hlt
        obtain ⟨b0, hb0⟩ : ∃ b0, b0 = w.heap.size := ⟨_, rfl⟩
        rw [← hb0] at HK d0 d1 ⊢
        have HB0 := Lib.hid hb0
        clear hb0
        cases p with
        | true =>
          go_upto_region 6 with (fail)
          refine wp_region_old 9 30 (by kernel_rfl) (by kernel_rfl) (by rfl) ?_
          simp only [List.take_succ_cons, List.take_zero, List.drop_succ_cons, List.drop_zero, List.drop_nil]
          refine chain_val (.pointer (some ⟨b0, 1, none⟩)) (fun _ _ => Below.refl _ _) rfl (by intro cs b h; cases h) (by kernel_rfl) (by kernel_rfl) (fun w1 _ => by simp [execOp, evE, lk_cons, lk_nil, slotL, go_sem]) ?_
          refine chain_load (.slice (some ⟨lb, lo, none⟩) m cap) _ _ _ (fun _ _ => Below.refl _ _) rfl rfl (by kernel_rfl) (by kernel_rfl) rfl (fun w1 hC => load_slt ((HK.out.below (show Below wr.heap.size wr w1 from old_end (Below.refl _ _) hC (Nat.le_refl _))).cell rfl)) ?_
          refine chain_move (.int .i64 k) _ (fun _ _ => Below.refl _ _) rfl rfl (by kernel_rfl) (by kernel_rfl) rfl ?_
          refine chain_idx (.pointer (some ⟨lb, lo + k * 5, none⟩)) _ _ _ (.slice (some ⟨lb, lo, none⟩) m cap) (.int .i64 k) (fun _ _ => Below.refl _ _) rfl rfl (by kernel_rfl) (by kernel_rfl) rfl rfl (fun w1 => idx_tie _ _ _ _ _ HLT.out w1) ?_
          refine chain_load (tieV x) _ _ _ (fun _ _ => Below.refl _ _) rfl rfl (by kernel_rfl) (by kernel_rfl) rfl (fun w1 hC => HLD.out w1 hC) ?_
          refine chain_val (.pointer (some ⟨b0, 0, none⟩)) (fun _ _ => Below.refl _ _) rfl (by intro cs b h; cases h) (by kernel_rfl) (by kernel_rfl) (fun w1 _ => by simp [execOp, evE, lk_cons, lk_nil, slotL, go_sem]) ?_
          refine chain_load (.int .i64 n) _ _ _ (fun _ _ => Below.refl _ _) rfl rfl (by kernel_rfl) (by kernel_rfl) rfl (fun w1 hC => load_i64 ((HK.out.below (show Below wr.heap.size wr w1 from old_end (Below.refl _ _) hC (Nat.le_refl _))).cell rfl)) ?_
          refine chain_call (.bool true) 34 [tieV x, .int .i64 n] _ _ (enters_of Tryz.func34 (by kernel_rfl) rfl) rfl rfl rfl (by kernel_rfl) (by kernel_rfl) rfl rfl (fun w1 hC => HC.out w1) ?_
          refine chain_un (.bool false) _ _ _ (.bool true) (fun _ _ => Below.refl _ _) rfl rfl (by kernel_rfl) (by kernel_rfl) rfl (fun w => un_not _ w) ?_
          refine chain_end (by rfl) ?_
          intro xs w1 hCw1 hrew1
          simp only [layE, List.foldr_cons, List.foldr_nil, List.set_cons_succ, List.set_cons_zero]
          have HO : Hid (Below wr.heap.size wr w1) := old_end (Below.refl wr.heap.size wr) hCw1 (Nat.le_refl _)
          clear hCw1 hrew1
          go_wp2_with fail
          exact ⟨⟨k + 1, by omega, by simp, HAS.out, HK.out.below HO.out, (by have := HB.out.trans (HO.out.mono HB.out.size); rw [← HB0.out] at this; exact this)⟩, by simp [intOf]; omega⟩
        | false =>
          go_upto_region 6 with (fail)
          refine wp_region_old 9 30 (by kernel_rfl) (by kernel_rfl) (by rfl) ?_
          simp only [List.take_succ_cons, List.take_zero, List.drop_succ_cons, List.drop_zero, List.drop_nil]
          refine chain_val (.pointer (some ⟨b0, 1, none⟩)) (fun _ _ => Below.refl _ _) rfl (by intro cs b h; cases h) (by kernel_rfl) (by kernel_rfl) (fun w1 _ => by simp [execOp, evE, lk_cons, lk_nil, slotL, go_sem]) ?_
          refine chain_load (.slice (some ⟨lb, lo, none⟩) m cap) _ _ _ (fun _ _ => Below.refl _ _) rfl rfl (by kernel_rfl) (by kernel_rfl) rfl (fun w1 hC => load_slt ((HK.out.below (show Below wr.heap.size wr w1 from old_end (Below.refl _ _) hC (Nat.le_refl _))).cell rfl)) ?_
          refine chain_move (.int .i64 k) _ (fun _ _ => Below.refl _ _) rfl rfl (by kernel_rfl) (by kernel_rfl) rfl ?_
          refine chain_idx (.pointer (some ⟨lb, lo + k * 5, none⟩)) _ _ _ (.slice (some ⟨lb, lo, none⟩) m cap) (.int .i64 k) (fun _ _ => Below.refl _ _) rfl rfl (by kernel_rfl) (by kernel_rfl) rfl rfl (fun w1 => idx_tie _ _ _ _ _ HLT.out w1) ?_
          refine chain_load (tieV x) _ _ _ (fun _ _ => Below.refl _ _) rfl rfl (by kernel_rfl) (by kernel_rfl) rfl (fun w1 hC => HLD.out w1 hC) ?_
          refine chain_val (.pointer (some ⟨b0, 0, none⟩)) (fun _ _ => Below.refl _ _) rfl (by intro cs b h; cases h) (by kernel_rfl) (by kernel_rfl) (fun w1 _ => by simp [execOp, evE, lk_cons, lk_nil, slotL, go_sem]) ?_
          refine chain_load (.int .i64 n) _ _ _ (fun _ _ => Below.refl _ _) rfl rfl (by kernel_rfl) (by kernel_rfl) rfl (fun w1 hC => load_i64 ((HK.out.below (show Below wr.heap.size wr w1 from old_end (Below.refl _ _) hC (Nat.le_refl _))).cell rfl)) ?_
          refine chain_call (.bool false) 34 [tieV x, .int .i64 n] _ _ (enters_of Tryz.func34 (by kernel_rfl) rfl) rfl rfl rfl (by kernel_rfl) (by kernel_rfl) rfl rfl (fun w1 hC => HC.out w1) ?_
          refine chain_un (.bool true) _ _ _ (.bool false) (fun _ _ => Below.refl _ _) rfl rfl (by kernel_rfl) (by kernel_rfl) rfl (fun w => un_not _ w) ?_
          refine chain_end (by rfl) ?_
          intro xs w1 hCw1 hrew1
          simp only [layE, List.foldr_cons, List.foldr_nil, List.set_cons_succ, List.set_cons_zero]
          have HO : Hid (Below wr.heap.size wr w1) := old_end (Below.refl wr.heap.size wr) hCw1 (Nat.le_refl _)
          clear hCw1 hrew1
          go_wp2_with fail
          go_ret
          exact ⟨by rw [HEE.out, HBAD.out (by trivial)]; rfl, HB.out.trans (HO.out.mono HB.out.size)⟩
      · have HE : Hid (ts.all (tieB · n) = true) := by
          have := HA.out
          rwa [List.take_of_length_le (by rw [← HM.out]; omega)] at this
        have t3 : decide (k < m) = false := decide_eq_false hlt
        clear HT
        go_wp2_with fail
        go_ret
        exact ⟨by rw [HEE.out, HE.out]; rfl, HB.out⟩
end Go.Proofs.YtmnabonhilkkbaaGreat
