/- Lists of numbers in memory. / Layer 4: groups without ties, and two groups made one. -/
import Derived.Test.YthjeiaildabadaaGreatUa
import Derived.Test.YthjeiaildabadaaGreatJo
import Derived.OwnWalk
import Derived.Deep.OwnRows
import Derived.Maps.AppendAt
/- Lists of numbers in memory. -/
namespace Go.Proofs.YthjeiaildabadaaGreat
set_option linter.unusedSimpArgs false
set_option linter.unusedVariables false
open Go Go.RowKit

/-- The cells of a slice of numbers. -/
def IntsAt (w : World) (a : Option Addr) (ls : List Int) : Prop := ls = [] ∨ ∃ b o, a = some ⟨b, o, none⟩ ∧ b < w.heap.size ∧ ∀ (i : Nat) (x : Int), ls[i]? = some x → w.cell? ⟨b, o + i, none⟩ = some (.int .i64 x)
theorem IntsAt.below {w w' : World} {a : Option Addr} {ls : List Int} (h : IntsAt w a ls) (hb : Below w.heap.size w w') : IntsAt w' a ls := by
  rcases h with h | ⟨b, o, rfl, hlt, h⟩
  · exact .inl h
  · exact .inr ⟨b, o, rfl, Nat.lt_of_lt_of_le hlt hb.size, fun i e he => by rw [hb.cell (by exact hlt)]; exact h i e he⟩
theorem IntsAt.at {w : World} {a : Option Addr} {ls : List Int} (h : IntsAt w a ls) {i : Nat} (hi : i < ls.length) : ∃ b o, a = some ⟨b, o, none⟩ ∧ b < w.heap.size ∧ w.cell? ⟨b, o + i, none⟩ = some (.int .i64 ls[i]) := by
  rcases h with rfl | ⟨b, o, rfl, hlt, h⟩
  · simp at hi
  · exact ⟨b, o, rfl, hlt, h i _ (List.getElem?_eq_getElem hi)⟩
theorem neq_i64 (t : TypeId) (x y : Operand) (a b : Int) (p : Bool) (hp : p = !decide (a = b)) (w : World) : (do eqGuard .neq t x y (.int .i64 a) (.int .i64 b); binOp .neq t (.int .i64 a) (.int .i64 b) : Sem Value).run Tryz.prog w = .ok (.bool p) w := by
  subst hp
  by_cases h : a = b
  · subst h; simp [go_sem]
  · have h2 : (a == b) = false := by rw [beq_eq_false_iff_ne]; exact h
    simp [go_sem, h, h2]
theorem idx_i64 (b o n cap k : Nat) (h : k < n) (w : World) : (Instr.indexAt 27 (.slice (some ⟨b, o, none⟩) n cap) (.int .i64 k)).run Tryz.prog w = .ok (.pointer (some ⟨b, o + k, none⟩)) w := by
  simp [go_sem, Instr.indexAt, h]
theorem load_i64 {w : World} {b o : Nat} {a : Int} (h : w.cell? ⟨b, o, none⟩ = some (.int .i64 a)) : (Instr.loadAt 3 (.pointer (some ⟨b, o, none⟩))).run Tryz.prog w = .ok (.int .i64 a) w := by
  simp [go_sem, Instr.loadAt, h]
theorem eql_i64 (t : TypeId) (x y : Operand) (a b : Int) (p : Bool) (hp : p = decide (a = b)) (w : World) : (do eqGuard .eql t x y (.int .i64 a) (.int .i64 b); binOp .eql t (.int .i64 a) (.int .i64 b) : Sem Value).run Tryz.prog w = .ok (.bool p) w := by
  subst hp
  by_cases h : a = b
  · subst h; simp [go_sem]
  · have h2 : (a == b) = false := by rw [beq_eq_false_iff_ne]; exact h
    simp [go_sem, h, h2]
def ivL (l : List Int) : List Value := l.map (Value.int .i64)
theorem ivL_len (l : List Int) : (ivL l).length = l.length := List.length_map _
theorem ivL_snoc (l : List Int) (x : Int) : ivL (l ++ [x]) = ivL l ++ [.int .i64 x] := by simp [ivL]
theorem infoInt : (Tryz.prog.info? 3).map (fun i => (i.zero, i.size, i.bytes)) = some (some (.int .i64 0), 1, 8) := by kernel_rfl
/-- What a slice that owns its numbers lets read. -/
theorem own_ints {W : World} {base : Nat} {v : Value} {k : Nat} {l : List Int} (h : W.ownsRow base 3 1 v k (ivL l)) : ∃ a cap, v = .slice a l.length cap ∧ k = l.length ∧ IntsAt W a l := by
  obtain ⟨hl, h⟩ := h
  rw [Nat.mul_one, ivL_len] at hl
  subst hl
  rcases h with ⟨rfl, h0⟩ | ⟨g, cap, cur, rfl, hg, hb, h1, h2, h3, h4⟩
  · exact ⟨none, 0, by rw [h0], rfl, .inl (List.length_eq_zero_iff.1 h0)⟩
  · refine ⟨some ⟨g, 0, none⟩, cap, rfl, rfl, .inr ⟨g, 0, rfl, (Array.getElem?_eq_some_iff.1 hb).1, fun i x hi => ?_⟩⟩
    rw [Nat.mul_one] at h4
    have h5 : (ivL l)[i]? = some (.int .i64 x) := by unfold ivL; rw [List.getElem?_map, hi]; rfl
    rw [← h4, List.getElem?_take] at h5
    split at h5
    · rw [Nat.zero_add]
      simp only [World.cell?, hb]
      rw [← Array.getElem?_toList]; exact h5
    · cases h5
/-- A block of numbers. -/
def NB (W : World) (g : Nat) (xs : List Int) : Prop := W.heap[g]? = some (.cells (ivL xs).toArray 3 (0, 0))
theorem NB.lt {W : World} {g : Nat} {xs : List Int} (h : NB W g xs) : g < W.heap.size := by
  rcases Nat.lt_or_ge g W.heap.size with hlt | hge
  · exact hlt
  · unfold NB at h; rw [Array.getElem?_eq_none hge] at h; cases h
theorem NB.cell {W : World} {g : Nat} {xs : List Int} (h : NB W g xs) {i : Nat} {x : Int} (hx : xs[i]? = some x) : W.cell? ⟨g, i, none⟩ = some (.int .i64 x) := by
  unfold NB at h
  simp only [World.cell?, h]
  simp [ivL, hx]
theorem NB.frozen {W : World} {g : Nat} {xs : List Int} (h : NB W g xs) (i : Nat) : W.frozen? ⟨g, i, none⟩ = false := by
  unfold NB at h
  simp [World.frozen?, h]
theorem NB.set_ {W : World} {g : Nat} {xs : List Int} (h : NB W g xs) (i : Nat) (u : Int) : NB (W.setCell ⟨g, i, none⟩ (.int .i64 u)) g (xs.set i u) := by
  unfold NB at h ⊢
  simp [World.setCell, Array.getElem?_modify, h, ivL, List.map_set]
theorem NB.ints {W : World} {g : Nat} {xs : List Int} (h : NB W g xs) : IntsAt W (some ⟨g, 0, none⟩) xs := .inr ⟨g, 0, rfl, h.lt, fun i x hi => by rw [Nat.zero_add]; exact h.cell hi⟩
theorem NB.block {W W' : World} {g : Nat} {xs : List Int} (h : NB W g xs) (e : W'.heap[g]? = W.heap[g]?) : NB W' g xs := by unfold NB at h ⊢; rw [e]; exact h
theorem NB.made (W : World) (n : Nat) : NB (W.alloc (.cells (madeCells #[.int .i64 0] n) 3)) W.heap.size (List.replicate n 0) := by
  have e : madeCells #[Value.int .i64 0] n = (ivL (List.replicate n 0)).toArray := by
    apply Array.ext_getElem?
    intro i
    by_cases hi : i < n
    · simp [madeCells, ivL, hi, Nat.mod_one]
    · simp [madeCells, ivL, hi]
  unfold NB
  rw [e]
  exact heap_alloc_new W _
end Go.Proofs.YthjeiaildabadaaGreat
/- Layer 4: groups without ties, and two groups made one. -/
namespace Go.Proofs.YthjeiaildabadaaGreat
set_option linter.unusedSimpArgs false
set_option linter.unusedVariables false
open Go Go.RowKit

/-- Nothing but one block is changed. -/
def Only (g : Nat) (w w' : World) : Prop := (∀ b, b < w.heap.size → b ≠ g → w'.heap[b]? = w.heap[b]?) ∧ w.heap.size ≤ w'.heap.size
theorem Only.refl (g : Nat) (w : World) : Only g w w := ⟨fun _ _ _ => rfl, Nat.le_refl _⟩
theorem Only.set_ {g : Nat} {w w' : World} (h : Only g w w') (i : Nat) (v : Value) : Only g w (w'.setCell ⟨g, i, none⟩ v) := by
  refine ⟨fun b hl hb => ?_, ?_⟩
  · rw [← h.1 b hl hb]; simp [World.setCell, Array.getElem?_modify, Ne.symm hb]
  · have := h.2; simpa [World.setCell] using this
theorem Only.trans {g : Nat} {w w' w'' : World} (h : Only g w w') (h' : Only g w' w'') : Only g w w'' :=
  ⟨fun b hl hb => (h'.1 b (Nat.lt_of_lt_of_le hl h.2) hb).trans (h.1 b hl hb), Nat.le_trans h.2 h'.2⟩
theorem Only.below {g : Nat} {w w' : World} (h : Below w.heap.size w w') : Only g w w' := ⟨fun b hl _ => h.block b hl, h.size⟩
def idL (n k : Nat) : List Int := intN (List.range k) ++ List.replicate (n - k) 0
theorem idL_len (n k : Nat) (h : k ≤ n) : (idL n k).length = n := by unfold idL; rw [List.length_append, intN_len, List.length_range, List.length_replicate]; omega
theorem idL_set {n k : Nat} (hk : k < n) : (idL n k).set k (k : Int) = idL n (k + 1) := by
  unfold idL
  have hl : (intN (List.range k)).length = k := by rw [intN_len, List.length_range]
  rw [List.range_succ, intN_snoc, List.set_append_right _ _ (by omega), hl, Nat.sub_self, show n - k = (n - (k + 1)) + 1 by omega, List.replicate_succ, List.set_cons_zero]
  simp
theorem idL_end (n : Nat) : idL n n = intN (List.range n) := by unfold idL; simp
theorem idL_at {n k : Nat} (hk : k < n) : (idL n k)[k]? = some 0 := by
  unfold idL
  have hl : (intN (List.range k)).length = k := by rw [intN_len, List.length_range]
  rw [List.getElem?_append_right (by omega), hl, Nat.sub_self, show n - k = (n - (k + 1)) + 1 by omega]
  rfl
set_option maxRecDepth 100000 in
set_option maxHeartbeats 1000000 in
theorem single_any (n : Nat) (w : World) (hl : n ≤ 1000) :
    Calls Tryz.prog 40 #[.int .i64 n] w fun e w' => e = .returned (.slice (some ⟨w.heap.size, 0, none⟩) n n) ∧ NB w' w.heap.size (intN (List.range n)) ∧ Below w.heap.size w w' ∧ w'.heap.size = w.heap.size + 1 := by
  have hmk := run_make_row' (P := Tryz.prog) 60 3 (.int .i64 0) 8 Tryz.underlying60 infoInt rfl .i64 .i64 n (by omega) (by omega)
  go_enter Tryz.func40, Tryz.ntmps40
  go_wp2_with fail
  go_loopg [4, 9] n (fun g t4 t9 wr => ∃ k : Nat, k + g = n ∧ t9 = .int .i64 k ∧ Hid (NB wr w.heap.size (idL n k) ∧ Below w.heap.size w wr ∧ wr.heap.size = w.heap.size + 1))
  case atStart => exact ⟨0, by omega, rfl, by have := NB.made w n; unfold idL; exact this, (Below.refl _ _).alloc (Nat.le_refl _) _, by simp⟩
  case round =>
    obtain ⟨k, hkg, rfl, H⟩ := hrel
    by_cases hlt : k < n
    · have hn0 := H.out.1.cell (idL_at hlt)
      have hf0 := H.out.1.frozen k
      go_wp2_with fail
      go_roundg (gk - 1)
      case measure => omega
      case rel =>
        refine ⟨k + 1, by omega, by simp, ?_, H.out.2.1.setCell (Nat.le_refl _) _, ?_⟩
        · have := H.out.1.set_ k (k : Int)
          rw [idL_set hlt] at this
          exact this
        · rw [← H.out.2.2]; simp [World.setCell]
    · have e : k = n := by omega
      subst e
      go_wp2_with fail
      go_ret
      have h1 := H.out.1
      rw [idL_end] at h1
      exact ⟨rfl, h1, H.out.2.1, H.out.2.2⟩
/-- Two groups made one, k nodes done. -/
def uniK (l : List Int) (lo hi : Int) (k : Nat) : List Int := uniL (l.take k) lo hi ++ l.drop k
theorem uniK_zero (l : List Int) (lo hi : Int) : uniK l lo hi 0 = l := by simp [uniK, uniL]
theorem uniK_end (l : List Int) (lo hi : Int) : uniK l lo hi l.length = uniL l lo hi := by simp [uniK, uniL]
theorem uniK_at {l : List Int} {lo hi : Int} {k : Nat} (hk : k < l.length) : (uniK l lo hi k)[k]? = some l[k] := by
  have hl : (uniL (l.take k) lo hi).length = k := by unfold uniL; rw [List.length_map, List.length_take]; omega
  unfold uniK
  rw [List.getElem?_append_right (by omega), hl, Nat.sub_self, List.getElem?_drop, Nat.add_zero, List.getElem?_eq_getElem hk]
theorem uniK_hit {l : List Int} {lo hi : Int} {k : Nat} (hk : k < l.length) (h : l[k] = hi) : (uniK l lo hi k).set k lo = uniK l lo hi (k + 1) := by
  have hl : (uniL (l.take k) lo hi).length = k := by unfold uniL; rw [List.length_map, List.length_take]; omega
  unfold uniK
  rw [List.set_append_right _ _ (by omega), hl, Nat.sub_self, ← List.getElem_cons_drop hk, List.set_cons_zero, ← List.take_append_getElem hk]
  unfold uniL
  rw [List.map_append, List.append_assoc]
  simp [h]
theorem uniK_miss {l : List Int} {lo hi : Int} {k : Nat} (hk : k < l.length) (h : l[k] ≠ hi) : uniK l lo hi k = uniK l lo hi (k + 1) := by
  unfold uniK
  rw [← List.getElem_cons_drop hk, ← List.take_append_getElem hk]
  unfold uniL
  rw [List.map_append, List.append_assoc]
  simp [h]
theorem idx_grp (b o n cap k : Nat) (h : k < n) (w : World) : (Instr.indexAt 60 (.slice (some ⟨b, o, none⟩) n cap) (.int .i64 k)).run Tryz.prog w = .ok (.pointer (some ⟨b, o + k, none⟩)) w := by
  simp [go_sem, Instr.indexAt, h]
theorem min_if (p q : Int) : (if q < p then q else p) = min p q := by split <;> omega
theorem max_if (p q : Int) : (if p < q then q else p) = max p q := by split <;> omega
set_option maxRecDepth 100000 in
set_option maxHeartbeats 2000000 in
theorem unite_any (g : Nat) (l : List Int) (x y : Nat) (p q : Int) (w : World) (hl : l.length ≤ 1000) (hg : NB w g l) (hx : l[x]? = some p) (hy : l[y]? = some q) :
    Calls Tryz.prog 42 #[.slice (some ⟨g, 0, none⟩) l.length l.length, .int .i64 x, .int .i64 y] w fun e w' => (∃ r, e = .returned (.bool r)) ∧ NB w' g (uniL l (min p q) (max p q)) ∧ Only g w w' ∧ (∀ B, B ≤ g → Below B w w') := by
  have HXL : Hid (x < l.length) := (List.getElem?_eq_some_iff.1 hx).1
  have HYL : Hid (y < l.length) := (List.getElem?_eq_some_iff.1 hy).1
  have HG := Lib.hid hg
  have HCX : Hid (∀ W, Old w.drew W → W.cell? ⟨g, x, none⟩ = some (.int .i64 p)) := fun W h => by rw [Below.cell h (by exact hg.lt)]; exact hg.cell hx
  have HCY : Hid (∀ W, Old w.drew W → W.cell? ⟨g, y, none⟩ = some (.int .i64 q)) := fun W h => by rw [Below.cell h (by exact hg.lt)]; exact hg.cell hy
  obtain ⟨n, hn⟩ : ∃ n, n = l.length := ⟨_, rfl⟩
  rw [← hn] at hl HXL HYL ⊢
  have HN := Lib.hid hn
  clear hn hg hx hy
  obtain ⟨lo, hlo⟩ : ∃ lo, lo = min p q := ⟨_, rfl⟩
  obtain ⟨hi, hhi⟩ : ∃ hi, hi = max p q := ⟨_, rfl⟩
  rw [← hlo, ← hhi]
  have HLO := Lib.hid hlo
  have HHI := Lib.hid hhi
  clear hlo hhi
  go_enter Tryz.func42, Tryz.ntmps42
  go_upto_region 1 with (fail)
  refine wp_region_old 20 47 (by kernel_rfl) (by kernel_rfl) (by rfl) ?_
  simp only [List.take_succ_cons, List.take_zero, List.drop_succ_cons, List.drop_zero, List.drop_nil]
  refine chain_move (.slice (some ⟨g, 0, none⟩) n n) _ (fun _ _ => Below.refl _ _) rfl rfl (by kernel_rfl) (by kernel_rfl) rfl ?_
  refine chain_move (.int .i64 x) _ (fun _ _ => Below.refl _ _) rfl rfl (by kernel_rfl) (by kernel_rfl) rfl ?_
  refine chain_idx (.pointer (some ⟨g, 0 + x, none⟩)) _ _ _ (.slice (some ⟨g, 0, none⟩) n n) (.int .i64 x) (fun _ _ => Below.refl _ _) rfl rfl (by kernel_rfl) (by kernel_rfl) rfl rfl (fun w1 => idx_grp _ _ _ _ _ HXL.out w1) ?_
  refine chain_load (.int .i64 p) _ _ _ (fun _ _ => Below.refl _ _) rfl rfl (by kernel_rfl) (by kernel_rfl) rfl (fun w1 hC => load_i64 (by rw [Nat.zero_add]; exact HCX.out _ hC)) ?_
  refine chain_move (.slice (some ⟨g, 0, none⟩) n n) _ (fun _ _ => Below.refl _ _) rfl rfl (by kernel_rfl) (by kernel_rfl) rfl ?_
  refine chain_move (.int .i64 y) _ (fun _ _ => Below.refl _ _) rfl rfl (by kernel_rfl) (by kernel_rfl) rfl ?_
  refine chain_idx (.pointer (some ⟨g, 0 + y, none⟩)) _ _ _ (.slice (some ⟨g, 0, none⟩) n n) (.int .i64 y) (fun _ _ => Below.refl _ _) rfl rfl (by kernel_rfl) (by kernel_rfl) rfl rfl (fun w1 => idx_grp _ _ _ _ _ HYL.out w1) ?_
  refine chain_load (.int .i64 q) _ _ _ (fun _ _ => Below.refl _ _) rfl rfl (by kernel_rfl) (by kernel_rfl) rfl (fun w1 hC => load_i64 (by rw [Nat.zero_add]; exact HCY.out _ hC)) ?_
  refine chain_val (.int .i64 lo) (fun _ _ => Below.refl _ _) rfl (by intro cs b h; cases h) (by kernel_rfl) (by kernel_rfl) (fun w1 _ => by simp [execOp, evE, lk_cons, go_sem, HLO.out, min_if]) ?_
  refine chain_move (.slice (some ⟨g, 0, none⟩) n n) _ (fun _ _ => Below.refl _ _) rfl rfl (by kernel_rfl) (by kernel_rfl) rfl ?_
  refine chain_move (.int .i64 x) _ (fun _ _ => Below.refl _ _) rfl rfl (by kernel_rfl) (by kernel_rfl) rfl ?_
  refine chain_idx (.pointer (some ⟨g, 0 + x, none⟩)) _ _ _ (.slice (some ⟨g, 0, none⟩) n n) (.int .i64 x) (fun _ _ => Below.refl _ _) rfl rfl (by kernel_rfl) (by kernel_rfl) rfl rfl (fun w1 => idx_grp _ _ _ _ _ HXL.out w1) ?_
  refine chain_load (.int .i64 p) _ _ _ (fun _ _ => Below.refl _ _) rfl rfl (by kernel_rfl) (by kernel_rfl) rfl (fun w1 hC => load_i64 (by rw [Nat.zero_add]; exact HCX.out _ hC)) ?_
  refine chain_move (.slice (some ⟨g, 0, none⟩) n n) _ (fun _ _ => Below.refl _ _) rfl rfl (by kernel_rfl) (by kernel_rfl) rfl ?_
  refine chain_move (.int .i64 y) _ (fun _ _ => Below.refl _ _) rfl rfl (by kernel_rfl) (by kernel_rfl) rfl ?_
  refine chain_idx (.pointer (some ⟨g, 0 + y, none⟩)) _ _ _ (.slice (some ⟨g, 0, none⟩) n n) (.int .i64 y) (fun _ _ => Below.refl _ _) rfl rfl (by kernel_rfl) (by kernel_rfl) rfl rfl (fun w1 => idx_grp _ _ _ _ _ HYL.out w1) ?_
  refine chain_load (.int .i64 q) _ _ _ (fun _ _ => Below.refl _ _) rfl rfl (by kernel_rfl) (by kernel_rfl) rfl (fun w1 hC => load_i64 (by rw [Nat.zero_add]; exact HCY.out _ hC)) ?_
  refine chain_val (.int .i64 hi) (fun _ _ => Below.refl _ _) rfl (by intro cs b h; cases h) (by kernel_rfl) (by kernel_rfl) (fun w1 _ => by simp [execOp, evE, lk_cons, go_sem, HHI.out, max_if]) ?_
  refine chain_assign (.int .i64 lo) _ (fun _ _ => Below.refl _ _) rfl rfl (by kernel_rfl) (by kernel_rfl) rfl ?_
  refine chain_assign (.int .i64 hi) _ (fun _ _ => Below.refl _ _) rfl rfl (by kernel_rfl) (by kernel_rfl) rfl ?_
  refine chain_end (by rfl) ?_
  intro xs w1 hCw1 hrew1
  simp only [layE, List.foldr_cons, List.foldr_nil, List.set_cons_succ, List.set_cons_zero]
  have HO : Hid (Below w.heap.size w w1) := old_end (Below.refl w.heap.size w) hCw1 (Nat.le_refl _)
  have HG1 : Hid (NB w1 g l) := HG.out.block (HO.out.block g HG.out.lt)
  clear hCw1 hrew1 HCX HCY
  go_wp2_with fail
  go_loopg [9, 10, 31] n (fun gk t9 t10 t31 wr => ∃ k : Nat, k + gk = n ∧ t31 = .int .i64 k ∧ Hid (NB wr g (uniK l lo hi k) ∧ Only g w1 wr ∧ (∀ B, B ≤ g → Below B w1 wr)))
  case atStart => exact ⟨0, by omega, rfl, by rw [uniK_zero]; exact HG1.out, Only.refl _ _, fun B _ => Below.refl _ _⟩
  case round =>
    obtain ⟨k, hkg, rfl, H⟩ := hrel
    by_cases hlt : k < n
    · have hkl : k < l.length := by rw [← HN.out]; exact hlt
      have hn0 := H.out.1.cell (uniK_at (lo := lo) (hi := hi) hkl)
      have hf0 := H.out.1.frozen k
      by_cases hv : l[k] = hi
      · have HK := Lib.hid (uniK_hit (lo := lo) hkl hv)
        rw [hv] at hn0
        clear hv hkl
        go_wp2_with fail
        go_roundg (gk - 1)
        case measure => omega
        case rel =>
          refine ⟨k + 1, by omega, by simp, ?_, H.out.2.1.set_ _ _, fun B hB => (H.out.2.2 B hB).setCell hB _⟩
          have := H.out.1.set_ k lo
          rw [HK.out] at this
          exact this
      · have HK := Lib.hid (uniK_miss (lo := lo) hkl hv)
        obtain ⟨v, hv0⟩ : ∃ v, v = l[k] := ⟨_, rfl⟩
        rw [← hv0] at hv hn0
        have t3 : (v == hi) = false := by rw [beq_eq_false_iff_ne]; exact hv
        clear hv0 hkl
        go_wp2_with fail
        go_roundg (gk - 1)
        case measure => omega
        case rel =>
          refine ⟨k + 1, by omega, by simp, ?_, H.out.2.1, H.out.2.2⟩
          have := H.out.1
          rw [HK.out] at this
          exact this
    · have e : k = n := by omega
      subst e
      have h1 := H.out.1
      rw [HN.out, uniK_end] at h1
      have HR := Lib.hid h1
      clear h1
      go_wp2_with fail
      go_ret
      exact ⟨⟨_, rfl⟩, HR.out, (Only.below HO.out).trans H.out.2.1, fun B hB => (HO.out.mono (by have := HG.out.lt; omega)).trans (H.out.2.2 B hB)⟩
end Go.Proofs.YthjeiaildabadaaGreat
