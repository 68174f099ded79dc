/- Layer 6: the program's normal form. -/
import Derived.Test.YteojbichibdhjacGreatDoorPb
import Derived.OwnWalk
import Derived.Deep.OwnRows
import Derived.Maps.AppendAt
namespace Go.Proofs.YteojbichibdhjacGreatDoor
set_option linter.unusedSimpArgs false
set_option linter.unusedVariables false
open Go Go.RowKit

def ivL (l : List Int) : List Value := l.map (Value.int .i64)
theorem ivL_len (l : List Int) : (ivL l).length = l.length := List.length_map _
theorem ivL_snoc (l : List Int) (x : Int) : ivL (l ++ [x]) = ivL l ++ [.int .i64 x] := by simp [ivL]
theorem infoInt : (Tryz.prog.info? 3).map (fun i => (i.zero, i.size, i.bytes)) = some (some (.int .i64 0), 1, 8) := by kernel_rfl
/-- What a slice that owns its numbers lets read. -/
theorem own_ints {W : World} {base : Nat} {v : Value} {k : Nat} {l : List Int} (h : W.ownsRow base 3 1 v k (ivL l)) : ∃ a cap, v = .slice a l.length cap ∧ k = l.length ∧ IntsAt W a l := by
  obtain ⟨hl, h⟩ := h
  rw [Nat.mul_one, ivL_len] at hl
  subst hl
  rcases h with ⟨rfl, h0⟩ | ⟨g, cap, cur, rfl, hg, hb, h1, h2, h3, h4⟩
  · exact ⟨none, 0, by rw [h0], rfl, .inl (List.length_eq_zero_iff.1 h0)⟩
  · refine ⟨some ⟨g, 0, none⟩, cap, rfl, rfl, .inr ⟨g, 0, rfl, (Array.getElem?_eq_some_iff.1 hb).1, fun i x hi => ?_⟩⟩
    rw [Nat.mul_one] at h4
    have h5 : (ivL l)[i]? = some (.int .i64 x) := by unfold ivL; rw [List.getElem?_map, hi]; rfl
    rw [← h4, List.getElem?_take] at h5
    split at h5
    · rw [Nat.zero_add]
      simp only [World.cell?, hb]
      rw [← Array.getElem?_toList]; exact h5
    · cases h5
/-- A block of numbers. -/
def NB (W : World) (g : Nat) (xs : List Int) : Prop := W.heap[g]? = some (.cells (ivL xs).toArray 3 (0, 0))
theorem NB.lt {W : World} {g : Nat} {xs : List Int} (h : NB W g xs) : g < W.heap.size := by
  rcases Nat.lt_or_ge g W.heap.size with hlt | hge
  · exact hlt
  · unfold NB at h; rw [Array.getElem?_eq_none hge] at h; cases h
theorem NB.cell {W : World} {g : Nat} {xs : List Int} (h : NB W g xs) {i : Nat} {x : Int} (hx : xs[i]? = some x) : W.cell? ⟨g, i, none⟩ = some (.int .i64 x) := by
  unfold NB at h
  simp only [World.cell?, h]
  simp [ivL, hx]
theorem NB.frozen {W : World} {g : Nat} {xs : List Int} (h : NB W g xs) (i : Nat) : W.frozen? ⟨g, i, none⟩ = false := by
  unfold NB at h
  simp [World.frozen?, h]
theorem NB.set_ {W : World} {g : Nat} {xs : List Int} (h : NB W g xs) (i : Nat) (u : Int) : NB (W.setCell ⟨g, i, none⟩ (.int .i64 u)) g (xs.set i u) := by
  unfold NB at h ⊢
  simp [World.setCell, Array.getElem?_modify, h, ivL, List.map_set]
theorem NB.ints {W : World} {g : Nat} {xs : List Int} (h : NB W g xs) : IntsAt W (some ⟨g, 0, none⟩) xs := .inr ⟨g, 0, rfl, h.lt, fun i x hi => by rw [Nat.zero_add]; exact h.cell hi⟩
theorem NB.block {W W' : World} {g : Nat} {xs : List Int} (h : NB W g xs) (e : W'.heap[g]? = W.heap[g]?) : NB W' g xs := by unfold NB at h ⊢; rw [e]; exact h
theorem NB.made (W : World) (n : Nat) : NB (W.alloc (.cells (madeCells #[.int .i64 0] n) 3)) W.heap.size (List.replicate n 0) := by
  have e : madeCells #[Value.int .i64 0] n = (ivL (List.replicate n 0)).toArray := by
    apply Array.ext_getElem?
    intro i
    by_cases hi : i < n
    · simp [madeCells, ivL, hi, Nat.mod_one]
    · simp [madeCells, ivL, hi]
  unfold NB
  rw [e]
  exact heap_alloc_new W _
/-- The numbers, k of them laid. -/
def NumL (ls : List Int) (n k : Nat) : List Int := intN (nrmP (ls.take k)).2 ++ List.replicate (n - k) 0
theorem nrm_len (ls : List Int) (k : Nat) (h : k ≤ ls.length) : (nrmP (ls.take k)).2.length = k := by rw [(nrm_inv _).len, List.length_take]; omega
theorem NumL_set {ls : List Int} {n k j : Nat} (hn : n = ls.length) (hk : k < n) (h : (nrmP (ls.take (k + 1))).2 = (nrmP (ls.take k)).2 ++ [j]) : (NumL ls n k).set k (j : Int) = NumL ls n (k + 1) := by
  unfold NumL
  have hl : (intN (nrmP (ls.take k)).2).length = k := by rw [intN_len]; exact nrm_len _ _ (by omega)
  rw [h, intN_snoc, List.set_append_right _ _ (by omega), hl, Nat.sub_self, show n - k = (n - (k + 1)) + 1 by omega, List.replicate_succ, List.set_cons_zero]
  simp
theorem NumL_at {ls : List Int} {n k : Nat} (hn : n = ls.length) (hk : k < n) : (NumL ls n k)[k]? = some 0 := by
  unfold NumL
  have hl : (intN (nrmP (ls.take k)).2).length = k := by rw [intN_len]; exact nrm_len _ _ (by omega)
  rw [List.getElem?_append_right (by omega), hl, Nat.sub_self, show n - k = (n - (k + 1)) + 1 by omega]
  rfl
/-- What the loop knows. -/
structure NS (w : World) (ls : List Int) (n k : Nat) (tf : Value) (wr : World) : Prop where
  own : wr.ownsRow (w.heap.size + 1) 3 1 tf (nrmP (ls.take k)).1.length (ivL (nrmP (ls.take k)).1)
  nums : NB wr w.heap.size (NumL ls n k)
  old : Below w.heap.size w wr
theorem NS.start (w : World) (ls : List Int) (n : Nat) : NS w ls n 0 (.slice none 0 0) (w.alloc (.cells (madeCells #[.int .i64 0] n) 3)) :=
  ⟨World.ownsRow_nil _ _ _ _, by have := NB.made w n; unfold NumL; exact this, (Below.refl _ _).alloc (Nat.le_refl _) _⟩
theorem NS.store {w : World} {ls : List Int} {n k j : Nat} {tf tg : Value} {wr wx : World} (h : NS w ls n k tf wr) (hn : n = ls.length) (hk : k < n) (h2 : (nrmP (ls.take (k + 1))).2 = (nrmP (ls.take k)).2 ++ [j])
    (ho : wx.ownsRow (w.heap.size + 1) 3 1 tg (nrmP (ls.take (k + 1))).1.length (ivL (nrmP (ls.take (k + 1))).1)) (hnb : NB wx w.heap.size (NumL ls n k)) (hb : Below w.heap.size w wx) :
    NS w ls n (k + 1) tg (wx.setCell ⟨w.heap.size, k, none⟩ (.int .i64 j)) := by
  refine ⟨ownsRow_setCell_below ho (Nat.lt_succ_self _) _, ?_, hb.setCell (Nat.le_refl _) _⟩
  rw [← NumL_set hn hk h2]
  exact hnb.set_ k j
set_option maxRecDepth 100000 in
set_option maxHeartbeats 1000000 in
theorem normal_any (a : Option Addr) (cap : Nat) (ls : List Int) (w : World) (hl : ls.length ≤ 1000) (hs : IntsAt w a ls) :
    Calls Tryz.prog 27 #[.slice a ls.length cap] w fun e w' => ∃ b, e = .returned (.slice (some ⟨b, 0, none⟩) ls.length ls.length) ∧ IntsAt w' (some ⟨b, 0, none⟩) (intN (nrmP ls).2) ∧ Below w.heap.size w w' := by
  have HS := Lib.hid hs
  obtain ⟨n, hn⟩ : ∃ n, n = ls.length := ⟨_, rfl⟩
  rw [← hn] at hl ⊢
  have HN := Lib.hid hn
  clear hs hn
  obtain ⟨i0, hi0, hz0, hz1, hz2⟩ := info_parts infoInt
  have hmk := run_make_row' (P := Tryz.prog) 22 3 (.int .i64 0) 8 Tryz.underlying22 infoInt rfl .i64 .i64 n (by omega) (by omega)
  go_enter Tryz.func27, Tryz.ntmps27
  go_wp2_with fail
  go_loopg [3, 13] n (fun g t3 t13 wr => ∃ k : Nat, k + g = n ∧ t13 = .int .i64 k ∧ Hid (NS w ls n k t3 wr))
  case atStart => exact ⟨0, by omega, rfl, NS.start w ls n⟩
  case round =>
    obtain ⟨k, hkg, rfl, H⟩ := hrel
    by_cases hlt : k < n
    · have hkl : k < ls.length := by rw [← HN.out]; exact hlt
      obtain ⟨lb, lo, rfl, hlb, c0⟩ := (HS.out.below H.out.old).at hkl
      have HST := Lib.hid (nrmP_step ls k hkl)
      obtain ⟨fa, fc, rfl, _, hfi⟩ := own_ints H.out.own
      have hF : (nrmP (ls.take k)).1.length ≤ k := by have := (nrm_inv (ls.take k)).flen; rw [List.length_take] at this; omega
      have HIX := Lib.hid (index_any ls[k] fa fc _ wr (by omega) hfi)
      have hn0 := H.out.nums.cell (NumL_at HN.out hlt)
      have hf0 := H.out.nums.frozen k
      obtain ⟨F, hF0⟩ : ∃ F, F = (nrmP (ls.take k)).1 := ⟨_, rfl⟩
      obtain ⟨x, hx⟩ : ∃ x, x = ls[k] := ⟨_, rfl⟩
      rw [← hF0] at hF HIX ⊢
      rw [← hx] at c0 HST HIX
      have HF := Lib.hid hF0
      have HO := Lib.hid H.out.own
      rw [← hF0] at HO
      clear hfi hx hF0 hkl
      cases hix : ixF F x 0 with
      | some j =>
        have HJ : Hid (ixI F x = (j : Int)) := by rw [Hid, ixI, hix]
        have H1 : Hid ((nrmP (ls.take (k + 1))).1 = F) := by rw [Hid, HST.out, nrmS, ← HF.out, hix]
        have H2 : Hid ((nrmP (ls.take (k + 1))).2 = (nrmP (ls.take k)).2 ++ [j]) := by rw [Hid, HST.out, nrmS, ← HF.out, hix]
        rw [HJ.out] at HIX
        clear hix HST
        go_wp2_with (first | (go_at_call 24; refine HIX.out.mono ?_; rintro e w' ⟨rfl, rfl⟩))
        go_roundg (gk - 1)
        case measure => omega
        case rel =>
          refine ⟨k + 1, by omega, by simp, ?_⟩
          exact H.out.store HN.out hlt H2.out (by rw [H1.out]; exact HO.out) H.out.nums H.out.old
      | none =>
        have HJ : Hid (ixI F x = -1) := by rw [Hid, ixI, hix]
        have H1 : Hid ((nrmP (ls.take (k + 1))).1 = F ++ [x]) := by rw [Hid, HST.out, nrmS, ← HF.out, hix]
        have H2 : Hid ((nrmP (ls.take (k + 1))).2 = (nrmP (ls.take k)).2 ++ [F.length]) := by rw [Hid, HST.out, nrmS, ← HF.out, hix]
        have HL : Hid ((nrmP (ls.take (k + 1))).1.length = F.length + 1) := by rw [Hid, H1.out]; simp
        rw [HJ.out] at HIX
        clear hix HST
        obtain ⟨m, hm⟩ : ∃ m, m = F.length := ⟨_, rfl⟩
        rw [← hm] at hF HIX H2 HL HO ⊢
        clear hm
        go_wp2_with (first | (go_at_call 24; refine HIX.out.mono ?_; rintro e w' ⟨rfl, rfl⟩) | (at_builtin; go_loud (refine wpList_append_own _ rfl _ _ 22 rfl (w.heap.size + 1) 3 i0 (.int .i64 0) 1 8 Tryz.underlying22 hi0 hz0 hz1 hz2 rfl (by decide) (.slice fa m fc) m (ivL F) rfl (HO.out.alloc _) ⟨wr.heap.size, 0, none⟩ 1 1 [.int .i64 x] rfl rfl (cell_one_new _ _ _) (by simp [Value.oneCell']) (by simp only [maxLen]; omega) (by omega) (by have := H.out.nums.lt; simp; omega) ?_; intro v2 w6 hown' hgrow _; have K6O := Lib.hid hown'; have K6B : Hid (NB w6 w.heap.size (NumL ls n k)) := H.out.nums.block ((hgrow.block _ (by have := H.out.nums.lt; simp; omega) (fun e => by have := (World.ownsRow.lt HO.out _ e.symm).1; omega)).trans (Below.heap_alloc _ _ _ H.out.nums.lt)); have K6W : Hid (Below w.heap.size w w6) := (H.out.old.alloc H.out.old.size _).grown hgrow (by have := H.out.old.size; simp; omega) (fun q hq => by have := (World.ownsRow.lt HO.out q hq).1; omega); clear hown' hgrow hn0 hf0; have hn0 := K6B.out.cell (NumL_at HN.out hlt); have hf0 := K6B.out.frozen k)))
        go_roundg (gk - 1)
        case measure => omega
        case rel =>
          refine ⟨k + 1, by omega, by simp, ?_⟩
          exact H.out.store HN.out hlt H2.out (by rw [HL.out, H1.out, ivL_snoc]; exact K6O.out) K6B.out K6W.out
    · have e : k = n := by omega
      subst e
      have HR : Hid (IntsAt wr (some ⟨w.heap.size, 0, none⟩) (intN (nrmP ls).2)) := by
        have := H.out.nums.ints
        unfold NumL at this
        rw [Nat.sub_self, List.replicate_zero, List.append_nil, List.take_of_length_le (by rw [← HN.out]; omega)] at this
        exact this
      go_wp2_with fail
      go_ret
      exact ⟨_, rfl, HR.out, H.out.old⟩
end Go.Proofs.YteojbichibdhjacGreatDoor
