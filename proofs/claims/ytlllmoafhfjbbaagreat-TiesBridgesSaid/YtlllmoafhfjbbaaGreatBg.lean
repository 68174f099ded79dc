/- Layer 4: unite, with what it answers; words for Bridges. -/
import Derived.Test.YtlllmoafhfjbbaaGreatBf
import Derived.Test.YtlllmoafhfjbbaaGreatIz
namespace Go.Proofs.YtlllmoafhfjbbaaGreat
set_option linter.unusedSimpArgs false
set_option linter.unusedVariables false
open Go Go.RowKit

set_option maxRecDepth 100000 in
set_option maxHeartbeats 2000000 in
theorem unite_val (g : Nat) (l : List Int) (x y : Nat) (p q : Int) (w : World) (hl : l.length ≤ 1000) (hg : NB w g l) (hx : l[x]? = some p) (hy : l[y]? = some q) :
    Calls Tryz.prog 31 #[.slice (some ⟨g, 0, none⟩) l.length l.length, .int .i64 x, .int .i64 y] w fun e w' => e = .returned (.bool (decide (min p q < max p q))) ∧ NB w' g (uniL l (min p q) (max p q)) ∧ Only g w w' ∧ (∀ B, B ≤ g → Below B w w') := by
  have HXL : Hid (x < l.length) := (List.getElem?_eq_some_iff.1 hx).1
  have HYL : Hid (y < l.length) := (List.getElem?_eq_some_iff.1 hy).1
  have HG := Lib.hid hg
  have HCX : Hid (∀ W, Old w.drew W → W.cell? ⟨g, x, none⟩ = some (.int .i64 p)) := fun W h => by rw [Below.cell h (by exact hg.lt)]; exact hg.cell hx
  have HCY : Hid (∀ W, Old w.drew W → W.cell? ⟨g, y, none⟩ = some (.int .i64 q)) := fun W h => by rw [Below.cell h (by exact hg.lt)]; exact hg.cell hy
  obtain ⟨n, hn⟩ : ∃ n, n = l.length := ⟨_, rfl⟩
  rw [← hn] at hl HXL HYL ⊢
  have HN := Lib.hid hn
  clear hn hg hx hy
  obtain ⟨lo, hlo⟩ : ∃ lo, lo = min p q := ⟨_, rfl⟩
  obtain ⟨hi, hhi⟩ : ∃ hi, hi = max p q := ⟨_, rfl⟩
  rw [← hlo, ← hhi]
  have HLO := Lib.hid hlo
  have HHI := Lib.hid hhi
  clear hlo hhi
  go_enter Tryz.func31, Tryz.ntmps31
  go_upto_region 1 with (fail)
  refine wp_region_old 20 47 (by kernel_rfl) (by kernel_rfl) (by rfl) ?_
  simp only [List.take_succ_cons, List.take_zero, List.drop_succ_cons, List.drop_zero, List.drop_nil]
  refine chain_move (.slice (some ⟨g, 0, none⟩) n n) _ (fun _ _ => Below.refl _ _) rfl rfl (by kernel_rfl) (by kernel_rfl) rfl ?_
  refine chain_move (.int .i64 x) _ (fun _ _ => Below.refl _ _) rfl rfl (by kernel_rfl) (by kernel_rfl) rfl ?_
  refine chain_idx (.pointer (some ⟨g, 0 + x, none⟩)) _ _ _ (.slice (some ⟨g, 0, none⟩) n n) (.int .i64 x) (fun _ _ => Below.refl _ _) rfl rfl (by kernel_rfl) (by kernel_rfl) rfl rfl (fun w1 => idx_grp _ _ _ _ _ HXL.out w1) ?_
  refine chain_load (.int .i64 p) _ _ _ (fun _ _ => Below.refl _ _) rfl rfl (by kernel_rfl) (by kernel_rfl) rfl (fun w1 hC => load_i64 (by rw [Nat.zero_add]; exact HCX.out _ hC)) ?_
  refine chain_move (.slice (some ⟨g, 0, none⟩) n n) _ (fun _ _ => Below.refl _ _) rfl rfl (by kernel_rfl) (by kernel_rfl) rfl ?_
  refine chain_move (.int .i64 y) _ (fun _ _ => Below.refl _ _) rfl rfl (by kernel_rfl) (by kernel_rfl) rfl ?_
  refine chain_idx (.pointer (some ⟨g, 0 + y, none⟩)) _ _ _ (.slice (some ⟨g, 0, none⟩) n n) (.int .i64 y) (fun _ _ => Below.refl _ _) rfl rfl (by kernel_rfl) (by kernel_rfl) rfl rfl (fun w1 => idx_grp _ _ _ _ _ HYL.out w1) ?_
  refine chain_load (.int .i64 q) _ _ _ (fun _ _ => Below.refl _ _) rfl rfl (by kernel_rfl) (by kernel_rfl) rfl (fun w1 hC => load_i64 (by rw [Nat.zero_add]; exact HCY.out _ hC)) ?_
  refine chain_val (.int .i64 lo) (fun _ _ => Below.refl _ _) rfl (by intro cs b h; cases h) (by kernel_rfl) (by kernel_rfl) (fun w1 _ => by simp [execOp, evE, lk_cons, go_sem, HLO.out, min_if]) ?_
  refine chain_move (.slice (some ⟨g, 0, none⟩) n n) _ (fun _ _ => Below.refl _ _) rfl rfl (by kernel_rfl) (by kernel_rfl) rfl ?_
  refine chain_move (.int .i64 x) _ (fun _ _ => Below.refl _ _) rfl rfl (by kernel_rfl) (by kernel_rfl) rfl ?_
  refine chain_idx (.pointer (some ⟨g, 0 + x, none⟩)) _ _ _ (.slice (some ⟨g, 0, none⟩) n n) (.int .i64 x) (fun _ _ => Below.refl _ _) rfl rfl (by kernel_rfl) (by kernel_rfl) rfl rfl (fun w1 => idx_grp _ _ _ _ _ HXL.out w1) ?_
  refine chain_load (.int .i64 p) _ _ _ (fun _ _ => Below.refl _ _) rfl rfl (by kernel_rfl) (by kernel_rfl) rfl (fun w1 hC => load_i64 (by rw [Nat.zero_add]; exact HCX.out _ hC)) ?_
  refine chain_move (.slice (some ⟨g, 0, none⟩) n n) _ (fun _ _ => Below.refl _ _) rfl rfl (by kernel_rfl) (by kernel_rfl) rfl ?_
  refine chain_move (.int .i64 y) _ (fun _ _ => Below.refl _ _) rfl rfl (by kernel_rfl) (by kernel_rfl) rfl ?_
  refine chain_idx (.pointer (some ⟨g, 0 + y, none⟩)) _ _ _ (.slice (some ⟨g, 0, none⟩) n n) (.int .i64 y) (fun _ _ => Below.refl _ _) rfl rfl (by kernel_rfl) (by kernel_rfl) rfl rfl (fun w1 => idx_grp _ _ _ _ _ HYL.out w1) ?_
  refine chain_load (.int .i64 q) _ _ _ (fun _ _ => Below.refl _ _) rfl rfl (by kernel_rfl) (by kernel_rfl) rfl (fun w1 hC => load_i64 (by rw [Nat.zero_add]; exact HCY.out _ hC)) ?_
  refine chain_val (.int .i64 hi) (fun _ _ => Below.refl _ _) rfl (by intro cs b h; cases h) (by kernel_rfl) (by kernel_rfl) (fun w1 _ => by simp [execOp, evE, lk_cons, go_sem, HHI.out, max_if]) ?_
  refine chain_assign (.int .i64 lo) _ (fun _ _ => Below.refl _ _) rfl rfl (by kernel_rfl) (by kernel_rfl) rfl ?_
  refine chain_assign (.int .i64 hi) _ (fun _ _ => Below.refl _ _) rfl rfl (by kernel_rfl) (by kernel_rfl) rfl ?_
  refine chain_end (by rfl) ?_
  intro xs w1 hCw1 hrew1
  simp only [layE, List.foldr_cons, List.foldr_nil, List.set_cons_succ, List.set_cons_zero]
  have HO : Hid (Below w.heap.size w w1) := old_end (Below.refl w.heap.size w) hCw1 (Nat.le_refl _)
  have HG1 : Hid (NB w1 g l) := HG.out.block (HO.out.block g HG.out.lt)
  clear hCw1 hrew1 HCX HCY
  go_wp2_with fail
  go_loopg [9, 10, 31] n (fun gk t9 t10 t31 wr => ∃ k : Nat, k + gk = n ∧ t31 = .int .i64 k ∧ Hid (NB wr g (uniK l lo hi k) ∧ Only g w1 wr ∧ (∀ B, B ≤ g → Below B w1 wr)))
  case atStart => exact ⟨0, by omega, rfl, by rw [uniK_zero]; exact HG1.out, Only.refl _ _, fun B _ => Below.refl _ _⟩
  case round =>
    obtain ⟨k, hkg, rfl, H⟩ := hrel
    by_cases hlt : k < n
    · have hkl : k < l.length := by rw [← HN.out]; exact hlt
      have hn0 := H.out.1.cell (uniK_at (lo := lo) (hi := hi) hkl)
      have hf0 := H.out.1.frozen k
      by_cases hv : l[k] = hi
      · have HK := Lib.hid (uniK_hit (lo := lo) hkl hv)
        rw [hv] at hn0
        clear hv hkl
        go_wp2_with fail
        go_roundg (gk - 1)
        case measure => omega
        case rel =>
          refine ⟨k + 1, by omega, by simp, ?_, H.out.2.1.set_ _ _, fun B hB => (H.out.2.2 B hB).setCell hB _⟩
          have := H.out.1.set_ k lo
          rw [HK.out] at this
          exact this
      · have HK := Lib.hid (uniK_miss (lo := lo) hkl hv)
        obtain ⟨v, hv0⟩ : ∃ v, v = l[k] := ⟨_, rfl⟩
        rw [← hv0] at hv hn0
        have t3 : (v == hi) = false := by rw [beq_eq_false_iff_ne]; exact hv
        clear hv0 hkl
        go_wp2_with fail
        go_roundg (gk - 1)
        case measure => omega
        case rel =>
          refine ⟨k + 1, by omega, by simp, ?_, H.out.2.1, H.out.2.2⟩
          have := H.out.1
          rw [HK.out] at this
          exact this
    · have e : k = n := by omega
      subst e
      have h1 := H.out.1
      rw [HN.out, uniK_end] at h1
      have HR := Lib.hid h1
      clear h1
      go_wp2_with fail
      go_ret
      exact ⟨rfl, HR.out, (Only.below HO.out).trans H.out.2.1, fun B hB => (HO.out.mono (by have := HG.out.lt; omega)).trans (H.out.2.2 B hB)⟩
theorem minmax_ne (p q : Int) : decide (min p q < max p q) = !(p == q) := by
  by_cases h : p = q
  · subst h; simp
  · have h2 : min p q < max p q := by omega
    rw [decide_eq_true h2]; simp [h]
theorem ex_of {ops : Array Oper} {o : Oper} {E : Env} {L : List Value} {a : Act} {w : World} {k : Nat} {v : Value} (hk : ∀ d ∈ o.looksAt ops, known E L d (a.tmps.getD d undef) w) (hq : lk E k = some (.ex v)) (hl : (o.looksAt ops).contains k = true) : a.tmps.getD k undef = v := by
  have := hk k (by simpa using hl)
  unfold known at this; rw [hq] at this; exact this
def grW (n : Int) (F : List TieD) : Word := fun u w => ∃ a' c', u = gV n a' F.length c' ∧ TiesAt w a' F
theorem grW_lasts {w0 : World} (n : Int) (F : List TieD) : lasts (clOld w0) (grW n F) := fun v w w' _ hR ⟨a', c', hv, h⟩ => ⟨a', c', hv, h.below hR⟩
def wkgW (n : Nat) (l : List Int) : Word := fun u w => ∃ a' m' c' g, u = wkV n a' m' c' g n ∧ NB w g l
theorem wkgW_lasts {w0 : World} (n : Nat) (l : List Int) : lasts (clOld w0) (wkgW n l) := fun v w w' _ hR ⟨a', m', c', g, hv, h⟩ => ⟨a', m', c', g, hv, h.block (Below.block hR g h.lt)⟩
def nbW (n : Nat) (l : List Int) : Word := fun u w => ∃ g, u = .slice (some ⟨g, 0, none⟩) n n ∧ NB w g l
theorem nbW_lasts {w0 : World} (n : Nat) (l : List Int) : lasts (clOld w0) (nbW n l) := fun v w w' _ hR ⟨g, hv, h⟩ => ⟨g, hv, h.block (Below.block hR g h.lt)⟩
/-- An append of one number to a row of one's own. -/
theorem own_int (w : World) (base q : Nat) (ty : TypeId) (fa : Option Addr) (fc : Nat) (xs : List Value) (b9 : Nat) (x : Int) (hown : w.ownsRow base 3 1 (.slice fa q fc) q xs) (ht : w.cell? ⟨b9, 0, none⟩ = some (.int .i64 x)) (hq : q ≤ 5000) (hb : base ≤ w.heap.size) :
    ∃ f2 c2 w', (Builtin.append_ #[25, 25] ty #[.slice fa q fc, .slice (some ⟨b9, 0, none⟩) 1 1]).run Tryz.prog w = .ok (.slice f2 (q + 1) c2) w' ∧ w'.ownsRow base 3 1 (.slice f2 (q + 1) c2) (q + 1) (xs ++ [.int .i64 x]) ∧ w.grownBy w' (Value.ownBlock (.slice fa q fc)) := by
  obtain ⟨i0, hi0, hz0, hz1, hz2⟩ := info_parts infoInt
  obtain ⟨v', w', h1, h2, h3, _⟩ := run_append_own w base 25 ty 3 i0 _ 1 8 Tryz.underlying25 hi0 hz0 hz1 hz2 rfl (by decide) (.slice fa q fc) q xs hown ⟨b9, 0, none⟩ 1 1 [.int .i64 x] rfl (fun j u hj => by
    match j, hj with
    | 0, hj => have e : some (Value.int .i64 x) = some u := hj; rw [← e, addr_plain]; exact ht) (by simp [Value.oneCell']) (by simp only [maxLen]; omega) (by omega) hb
  obtain ⟨f2, c2, rfl⟩ := own_slice h2
  exact ⟨f2, c2, w', h1, h2, h3⟩
theorem own_intsB {W : World} {base : Nat} {a : Option Addr} {k c : Nat} {l : List Int} (h : W.ownsRow base 3 1 (.slice a k c) k (ivL l)) : k = l.length ∧ IntsAt W a l := by
  obtain ⟨hl, h⟩ := h
  have hl : k = l.length := by rw [ivL_len] at hl; omega
  refine ⟨hl, ?_⟩
  rcases h with ⟨e, h0⟩ | ⟨g, cap, cur, e, hg, hb, h1, h2, h3, h4⟩
  · exact .inl (List.length_eq_zero_iff.1 (by omega))
  · injection e with e1
    subst e1
    refine .inr ⟨g, 0, rfl, (Array.getElem?_eq_some_iff.1 hb).1, fun i x hi => ?_⟩
    have h5 : (ivL l)[i]? = some (.int .i64 x) := by simp [ivL, hi]
    rw [← h4, List.getElem?_take] at h5
    split at h5
    · rw [Nat.zero_add]
      simp only [World.cell?, hb]
      rw [← Array.getElem?_toList]; exact h5
    · cases h5
/-- A row of numbers of one's own and a block of another kind. -/
theorem own_neI {W : World} {B q n : Nat} {v : Value} {xs ys : List Value} {t : TypeId} (h : W.ownsRow B 3 1 v n xs) (hq : Blk W q ys t) (ht : t ≠ 3) : v.ownBlock ≠ some q := fun e => by
  rcases h.2 with ⟨rfl, _⟩ | ⟨g, cap, cur, rfl, _, h3, _⟩
  · cases e
  · have e2 : g = q := by simpa [Value.ownBlock] using e
    subst e2
    unfold Blk at hq
    rw [hq] at h3
    injection h3 with h3
    injection h3 with _ h3
    exact ht h3
theorem own_onlyI {W W' : World} {B q n : Nat} {v : Value} {xs : List Value} (h : W.ownsRow B 3 1 v n xs) (hq : q < B) (ho : Only q W W') : W'.ownsRow B 3 1 v n xs :=
  ⟨h.1, h.2.imp id fun ⟨g, cap, cur, h1, h2, h3, h4⟩ => ⟨g, cap, cur, h1, h2, (ho.1 g (Array.getElem?_eq_some_iff.1 h3).1 (by omega)).trans h3, h4⟩⟩
end Go.Proofs.YtlllmoafhfjbbaaGreat
