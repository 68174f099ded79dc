/- Layer 4: slices.Index and Contains of ties. -/
import Derived.Test.YtklcbccfbiljjaaGreatEg
namespace Go.Proofs.YtklcbccfbiljjaaGreat
set_option linter.unusedSimpArgs false
set_option linter.unusedVariables false
open Go Go.RowKit

def tieE (s t : TieD) : Bool := decide (s.a = t.a) && decide (s.b = t.b) && decide (s.kind = t.kind) && decide (s.str = t.str) && decide (s.src = t.src)
theorem tieE_iff (s t : TieD) : tieE s t = true ↔ s = t := by
  obtain ⟨a, b, c, d, e⟩ := s
  obtain ⟨a', b', c', d', e'⟩ := t
  simp [tieE, and_assoc]
instance : DecidableEq TieD := fun s t => decidable_of_iff (tieE s t = true) (tieE_iff s t)
theorem tieE_dec (s t : TieD) : tieE s t = decide (s = t) := by
  rw [Bool.eq_iff_iff, tieE_iff, decide_eq_true_eq]
def ixT : List TieD → TieD → Nat → Option Nat
  | [], _, _ => none
  | y :: l, x, i => if x = y then some i else ixT l x (i + 1)
theorem ixT_drop {l : List TieD} {x : TieD} {k : Nat} (hk : k < l.length) : ixT (l.drop k) x k = if x = l[k] then some k else ixT (l.drop (k + 1)) x (k + 1) := by
  rw [← List.getElem_cons_drop hk]; rfl
def ixTI (l : List TieD) (x : TieD) : Int := match ixT l x 0 with | some j => (j : Int) | none => -1
theorem ixT_has (x : TieD) : ∀ (l : List TieD) (i : Nat), (ixT l x i).isSome = decide (x ∈ l)
  | [], i => by simp [ixT]
  | y :: l, i => by
    unfold ixT
    by_cases h : x = y
    · simp [h]
    · rw [if_neg h, ixT_has x l (i + 1)]; simp [h]
theorem ixTI_has (l : List TieD) (x : TieD) : decide (0 ≤ ixTI l x) = decide (x ∈ l) := by
  rw [← ixT_has x l 0]
  unfold ixTI
  cases ixT l x 0 with
  | none => rfl
  | some j => simp
set_option maxHeartbeats 2000000 in
theorem eql_tie (x y : Operand) (c d : TieD) (p : Bool) (hp : p = decide (c = d)) (w : World) : (do eqGuard .eql 26 x y (tieV c) (tieV d); binOp .eql 26 (tieV c) (tieV d) : Sem Value).run Tryz.prog w = .ok (.bool p) w := by
  rw [← tieE_dec] at hp
  subst hp
  simp [go_sem, tieV]
  unfold tieE
  by_cases h0 : c.a = d.a <;> by_cases h1 : c.b = d.b <;> by_cases h2 : c.kind = d.kind <;> by_cases h3 : c.str = d.str <;> by_cases h4 : c.src = d.src <;> simp [h0, h1, h2, h3, h4]
set_option maxRecDepth 100000 in
set_option maxHeartbeats 2000000 in
theorem indexT_any (x : TieD) (a : Option Addr) (cap : Nat) (ls : List TieD) (w : World) (hl : ls.length ≤ 100000) (hs : TiesAt w a ls) :
    Calls Tryz.prog 65 #[.slice a ls.length cap, tieV x] w fun e w' => e = .returned (.int .i64 (ixTI ls x)) ∧ Below w.heap.size w w' := by
  have HS := Lib.hid hs
  obtain ⟨n, hn⟩ : ∃ n, n = ls.length := ⟨_, rfl⟩
  rw [← hn] at hl ⊢
  have HN := Lib.hid hn
  clear hs hn
  obtain ⟨R, hR⟩ : ∃ R, R = ixTI ls x := ⟨_, rfl⟩
  have HRR := Lib.hid hR
  rw [← hR]
  clear hR
  go_enter Tryz.func65, Tryz.ntmps65
  simp only [tieV]
  go_wp2_with fail
  go_loopw [8] (fun ti wr => ∃ k : Nat, k ≤ n ∧ ti = .int .i64 k ∧ Hid (ixT ls x 0 = ixT (ls.drop k) x k) ∧ Hid (Blk wr w.heap.size (tvC x) 26) ∧ Hid (Below w.heap.size w wr)) (fun ti _ => n - (intOf ti).toNat)
  case atStart => exact ⟨0, by omega, rfl, by rw [Hid, List.drop_zero], Blk.new w _ _, (Below.refl _ _).alloc (Nat.le_refl _) _⟩
  case round =>
    obtain ⟨k, hk, rfl, HI, HK, HB⟩ := hrel
    by_cases hlt : k < n
    · have hkl : k < ls.length := by rw [← HN.out]; exact hlt
      obtain ⟨lb, lo, rfl, hlb, c0, c1, c2, c3, c4⟩ := (HS.out.below HB.out).at hkl
      have HD := Lib.hid (ixT_drop (x := x) hkl)
      obtain ⟨y, hy⟩ : ∃ y, y = ls[k] := ⟨_, rfl⟩
      rw [Hid, ← hy] at HD
      rw [← hy] at c0 c1 c2 c3 c4
      obtain ⟨b3, hb3⟩ : ∃ b3, b3 = w.heap.size := ⟨_, rfl⟩
      have HB3 := Lib.hid hb3
      rw [← hb3] at HK ⊢
      have HX : Hid (∀ W, (clOld wr.drew).C W → (Instr.loadAt 26 (.pointer (some ⟨b3, 0, none⟩))).run Tryz.prog W = .ok (tieV x) W ∧ (Instr.loadAt 26 (.pointer (some ⟨lb, lo + k * 5, none⟩))).run Tryz.prog W = .ok (tieV y) W) := fun W hC => by
        have hb : Below wr.heap.size wr W := old_end (Below.refl _ _) hC (Nat.le_refl _)
        have k3 := HK.out.below hb
        exact ⟨load_tie (k3.cell (i := 0) rfl) (k3.cell (i := 1) rfl) (k3.cell (i := 2) rfl) (k3.cell (i := 3) rfl) (k3.cell (i := 4) rfl), load_tie (by rw [hb.cell (by exact hlb)]; exact c0) (by rw [hb.cell (by exact hlb)]; exact c1) (by rw [hb.cell (by exact hlb)]; exact c2) (by rw [hb.cell (by exact hlb)]; exact c3) (by rw [hb.cell (by exact hlb)]; exact c4)⟩
      have HLT : Hid (k < n) := hlt
      clear hy hkl c0 c1 c2 c3 c4 hlb hb3
      have t3 : decide (k < n) = true := decide_eq_true hlt
      by_cases hxy : x = y
      · have HR : Hid (R = (k : Int)) := by
          have h1 := HI.out
          rw [HD, if_pos hxy] at h1
          rw [Hid, HRR.out, ixTI, h1]
        have HQ : Hid (true = decide (x = y)) := (decide_eq_true hxy).symm
        clear HD HI hxy
        go_upto_region 4 with (fail)
        refine wp_region_old 6 19 (by kernel_rfl) (by kernel_rfl) (by rfl) ?_
        simp only [List.take_succ_cons, List.take_zero, List.drop_succ_cons, List.drop_zero, List.drop_nil]
        refine chain_load (tieV x) _ _ _ (fun _ _ => Below.refl _ _) rfl rfl (by kernel_rfl) (by kernel_rfl) rfl (fun w1 hC => (HX.out w1 hC).1) ?_
        refine chain_move (.slice (some ⟨lb, lo, none⟩) n cap) _ (fun _ _ => Below.refl _ _) rfl rfl (by kernel_rfl) (by kernel_rfl) rfl ?_
        refine chain_move (.int .i64 k) _ (fun _ _ => Below.refl _ _) rfl rfl (by kernel_rfl) (by kernel_rfl) rfl ?_
        refine chain_idx (.pointer (some ⟨lb, lo + k * 5, none⟩)) _ _ _ (.slice (some ⟨lb, lo, none⟩) n cap) (.int .i64 k) (fun _ _ => Below.refl _ _) rfl rfl (by kernel_rfl) (by kernel_rfl) rfl rfl (fun w1 => idx_tie _ _ _ _ _ HLT.out w1) ?_
        refine chain_load (tieV y) _ _ _ (fun _ _ => Below.refl _ _) rfl rfl (by kernel_rfl) (by kernel_rfl) rfl (fun w1 hC => (HX.out w1 hC).2) ?_
        refine chain_bin (.bool true) _ _ _ _ _ (tieV x) (tieV y) (fun _ _ => Below.refl _ _) rfl rfl (by kernel_rfl) (by kernel_rfl) rfl rfl (fun w1 => eql_tie _ _ _ _ _ HQ.out w1) ?_
        refine chain_end (by rfl) ?_
        intro xs w1 hCw1 hrew1
        simp only [layE, List.foldr_cons, List.foldr_nil, List.set_cons_succ, List.set_cons_zero]
        have HB1 := Lib.hid (old_end HB.out hCw1 HB.out.size)
        clear hCw1 hrew1 HX
        go_wp2_with fail
        go_ret
        exact ⟨by rw [HR.out]; rfl, HB1.out⟩
      · have HNX : Hid (ixT ls x 0 = ixT (ls.drop (k + 1)) x (k + 1)) := by
          have h1 := HI.out
          rw [HD, if_neg hxy] at h1
          exact h1
        have HQ : Hid (false = decide (x = y)) := (decide_eq_false hxy).symm
        clear HD HI hxy
        go_upto_region 4 with (fail)
        refine wp_region_old 6 19 (by kernel_rfl) (by kernel_rfl) (by rfl) ?_
        simp only [List.take_succ_cons, List.take_zero, List.drop_succ_cons, List.drop_zero, List.drop_nil]
        refine chain_load (tieV x) _ _ _ (fun _ _ => Below.refl _ _) rfl rfl (by kernel_rfl) (by kernel_rfl) rfl (fun w1 hC => (HX.out w1 hC).1) ?_
        refine chain_move (.slice (some ⟨lb, lo, none⟩) n cap) _ (fun _ _ => Below.refl _ _) rfl rfl (by kernel_rfl) (by kernel_rfl) rfl ?_
        refine chain_move (.int .i64 k) _ (fun _ _ => Below.refl _ _) rfl rfl (by kernel_rfl) (by kernel_rfl) rfl ?_
        refine chain_idx (.pointer (some ⟨lb, lo + k * 5, none⟩)) _ _ _ (.slice (some ⟨lb, lo, none⟩) n cap) (.int .i64 k) (fun _ _ => Below.refl _ _) rfl rfl (by kernel_rfl) (by kernel_rfl) rfl rfl (fun w1 => idx_tie _ _ _ _ _ HLT.out w1) ?_
        refine chain_load (tieV y) _ _ _ (fun _ _ => Below.refl _ _) rfl rfl (by kernel_rfl) (by kernel_rfl) rfl (fun w1 hC => (HX.out w1 hC).2) ?_
        refine chain_bin (.bool false) _ _ _ _ _ (tieV x) (tieV y) (fun _ _ => Below.refl _ _) rfl rfl (by kernel_rfl) (by kernel_rfl) rfl rfl (fun w1 => eql_tie _ _ _ _ _ HQ.out w1) ?_
        refine chain_end (by rfl) ?_
        intro xs w1 hCw1 hrew1
        simp only [layE, List.foldr_cons, List.foldr_nil, List.set_cons_succ, List.set_cons_zero]
        have HB1 := Lib.hid (old_end HB.out hCw1 HB.out.size)
        have HK1 := Lib.hid (HK.out.below (show Below wr.heap.size wr w1 from old_end (Below.refl _ _) hCw1 (Nat.le_refl _)))
        clear hCw1 hrew1 HX
        go_wp2_with fail
        rw [HB3.out] at *
        exact ⟨⟨k + 1, by omega, by simp, HNX.out, HK1.out, HB1.out⟩, by simp [intOf]; omega⟩
    · have HR : Hid (R = -1) := by
        have h1 := HI.out
        rw [List.drop_of_length_le (by rw [← HN.out]; omega)] at h1
        rw [Hid, HRR.out, ixTI, h1]; rfl
      have t3 : decide (k < n) = false := decide_eq_false hlt
      go_wp2_with fail
      go_ret
      exact ⟨by rw [HR.out]; rfl, HB.out⟩
end Go.Proofs.YtklcbccfbiljjaaGreat
