/- Layer 6: the program's normal form of pairs. -/
import Derived.Test.YteojbichibdhjacGreatDoorLc
namespace Go.Proofs.YteojbichibdhjacGreatDoor
set_option linter.unusedSimpArgs false
set_option linter.unusedVariables false
open Go Go.RowKit

theorem infoP : (Tryz.prog.info? 81).map (fun i => (i.zero, i.size, i.bytes)) = some (some (.agg #[.int .i64 0, .int .i64 0]), 2, 16) := by kernel_rfl
theorem own_below {W W' : World} {base : Nat} {e : TypeId} {size : Nat} {v : Value} {n : Nat} {xs : List Value} (h : W.ownsRow base e size v n xs) (hb : Below W.heap.size W W') : W'.ownsRow base e size v n xs :=
  ⟨h.1, h.2.imp id fun ⟨g, cap, cur, h1, h2, h3, h4⟩ => ⟨g, cap, cur, h1, h2, (hb.block g (Array.getElem?_eq_some_iff.1 h3).1).trans h3, h4⟩⟩
theorem addr_plain (b o n : Nat) : (⟨b, o, none⟩ : Addr).add n = ⟨b, o + n, none⟩ := by unfold Addr.add; split <;> simp_all
theorem cell_two_new (W : World) (u0 u1 : Value) (t : TypeId) : ∀ (j : Nat) (u : Value), [u0, u1][j]? = some u → (W.alloc (.cells #[u0, u1] t)).cell? ((⟨W.heap.size, 0, none⟩ : Addr).add j) = some u := fun j u h => by
  rw [addr_plain, Nat.zero_add]
  exact (Blk.new W [u0, u1] t).cell h
structure NP (w : World) (ls : List Int) (n k : Nat) (tf : Value) (wr : World) : Prop where
  own : wr.ownsRow (w.heap.size + 1) 81 2 tf (nrmP (ls.take k)).1.length (pvL (nrmP (ls.take k)).1)
  nums : NB wr w.heap.size (NumL ls n k)
  old : Below w.heap.size w wr
theorem NP.start (w : World) (ls : List Int) (n : Nat) : NP w ls n 0 (.slice none 0 0) (w.alloc (.cells (madeCells #[.int .i64 0] n) 3)) :=
  ⟨World.ownsRow_nil _ _ _ _, by have := NB.made w n; unfold NumL; exact this, (Below.refl _ _).alloc (Nat.le_refl _) _⟩
theorem NP.store {w : World} {ls : List Int} {n k j : Nat} {tf tg : Value} {wr wx : World} (h : NP w ls n k tf wr) (hn : n = ls.length) (hk : k < n) (h2 : (nrmP (ls.take (k + 1))).2 = (nrmP (ls.take k)).2 ++ [j])
    (ho : wx.ownsRow (w.heap.size + 1) 81 2 tg (nrmP (ls.take (k + 1))).1.length (pvL (nrmP (ls.take (k + 1))).1)) (hnb : NB wx w.heap.size (NumL ls n k)) (hb : Below w.heap.size w wx) :
    NP w ls n (k + 1) tg (wx.setCell ⟨w.heap.size, k, none⟩ (.int .i64 j)) := by
  refine ⟨ownsRow_setCell_below ho (Nat.lt_succ_self _) _, ?_, hb.setCell (Nat.le_refl _) _⟩
  rw [← NumL_set hn hk h2]
  exact hnb.set_ k j
set_option maxRecDepth 100000 in
set_option maxHeartbeats 2000000 in
theorem normalP_any (a : Option Addr) (cap : Nat) (ls : List Int) (w : World) (hl : ls.length ≤ 1000) (hs : CdAt w a ls) :
    Calls Tryz.prog 41 #[.slice a ls.length cap] w fun e w' => ∃ b, e = .returned (.slice (some ⟨b, 0, none⟩) ls.length ls.length) ∧ IntsAt w' (some ⟨b, 0, none⟩) (intN (nrmP ls).2) ∧ Below w.heap.size w w' := by
  have HS := Lib.hid hs
  obtain ⟨n, hn⟩ : ∃ n, n = ls.length := ⟨_, rfl⟩
  rw [← hn] at hl ⊢
  have HN := Lib.hid hn
  clear hs hn
  obtain ⟨i0, hi0, hz0, hz1, hz2⟩ := info_parts infoP
  have hmk := run_make_row' (P := Tryz.prog) 22 3 (.int .i64 0) 8 Tryz.underlying22 infoInt rfl .i64 .i64 n (by omega) (by omega)
  go_enter Tryz.func41, Tryz.ntmps41
  go_wp2_with fail
  go_loopg [3, 13] n (fun g t3 t13 wr => ∃ k : Nat, k + g = n ∧ t13 = .int .i64 k ∧ Hid (NP w ls n k t3 wr))
  case atStart => exact ⟨0, by omega, rfl, NP.start w ls n⟩
  case round =>
    obtain ⟨k, hkg, rfl, H⟩ := hrel
    by_cases hlt : k < n
    · have hkl : k < ls.length := by rw [← HN.out]; exact hlt
      obtain ⟨lb, lo, rfl, hlb, c0, c1⟩ := (HS.out.below H.out.old).at hkl
      have HST := Lib.hid (nrmP_step ls k hkl)
      obtain ⟨fa, fc, rfl, _, hfi⟩ := own_pairs H.out.own
      have hF : (nrmP (ls.take k)).1.length ≤ k := by have := (nrm_inv (ls.take k)).flen; rw [List.length_take] at this; omega
      have HIX : Hid (∀ W, Below wr.heap.size wr W → Calls Tryz.prog 58 #[.slice fa (nrmP (ls.take k)).1.length fc, .agg #[.int .i64 (cA ls[k]), .int .i64 (cB ls[k])]] W fun e w' => e = .returned (.int .i64 (ixI (nrmP (ls.take k)).1 ls[k])) ∧ Below W.heap.size W w') := fun W hb => indexP_any ls[k] fa fc _ W (by omega) (hfi.below hb)
      obtain ⟨F, hF0⟩ : ∃ F, F = (nrmP (ls.take k)).1 := ⟨_, rfl⟩
      obtain ⟨x, hx⟩ : ∃ x, x = ls[k] := ⟨_, rfl⟩
      rw [← hF0] at hF HIX ⊢
      rw [← hx] at c0 c1 HST HIX
      have HF := Lib.hid hF0
      have HO := Lib.hid H.out.own
      rw [← hF0] at HO
      clear hfi hx hF0 hkl
      have HB2 : Hid (∀ W, Below (wr.heap.size + 1) (wr.alloc (.cells #[.int .i64 (cA x), .int .i64 (cB x)] 81)) W → Below wr.heap.size wr W ∧ W.cell? ⟨wr.heap.size, 0, none⟩ = some (.int .i64 (cA x)) ∧ W.cell? ⟨wr.heap.size, 1, none⟩ = some (.int .i64 (cB x))) := fun W hb => by
        have hb' : Below (wr.alloc (.cells #[.int .i64 (cA x), .int .i64 (cB x)] 81)).heap.size (wr.alloc (.cells #[.int .i64 (cA x), .int .i64 (cB x)] 81)) W := by simpa using hb
        have k := (Blk.new wr [.int .i64 (cA x), .int .i64 (cB x)] 81).below hb'
        exact ⟨((Below.refl _ _).alloc (Nat.le_refl _) _).trans (hb.mono (by omega)), k.cell rfl, k.cell rfl⟩
      cases hix : ixF F x 0 with
      | some j =>
        have HJ : Hid (ixI F x = (j : Int)) := by rw [Hid, ixI, hix]
        have H1 : Hid ((nrmP (ls.take (k + 1))).1 = F) := by rw [Hid, HST.out, nrmS, ← HF.out, hix]
        have H2 : Hid ((nrmP (ls.take (k + 1))).2 = (nrmP (ls.take k)).2 ++ [j]) := by rw [Hid, HST.out, nrmS, ← HF.out, hix]
        rw [HJ.out] at HIX
        clear hix HST
        go_wp2_with (first | (go_at_call 58; refine (HIX.out _ ((Below.refl _ _).alloc (Nat.le_refl _) _)).mono ?_; rintro e w1 ⟨rfl, hb1⟩; have HY := Lib.hid (HB2.out w1 (by simpa using hb1)); clear hb1 HIX; have hn0 := (H.out.nums.block (HY.out.1.block _ H.out.nums.lt)).cell (NumL_at HN.out hlt); have hf0 := (H.out.nums.block (HY.out.1.block _ H.out.nums.lt)).frozen k))
        go_roundg (gk - 1)
        case measure => omega
        case rel =>
          refine ⟨k + 1, by omega, by simp, ?_⟩
          exact H.out.store HN.out hlt H2.out (by rw [H1.out]; exact own_below HO.out HY.out.1) (H.out.nums.block (HY.out.1.block _ H.out.nums.lt)) (H.out.old.trans (HY.out.1.mono H.out.old.size))
      | none =>
        have HJ : Hid (ixI F x = -1) := by rw [Hid, ixI, hix]
        have H1 : Hid ((nrmP (ls.take (k + 1))).1 = F ++ [x]) := by rw [Hid, HST.out, nrmS, ← HF.out, hix]
        have H2 : Hid ((nrmP (ls.take (k + 1))).2 = (nrmP (ls.take k)).2 ++ [F.length]) := by rw [Hid, HST.out, nrmS, ← HF.out, hix]
        have HL : Hid ((nrmP (ls.take (k + 1))).1.length = F.length + 1) := by rw [Hid, H1.out]; simp
        rw [HJ.out] at HIX
        clear hix HST
        obtain ⟨m, hm⟩ : ∃ m, m = F.length := ⟨_, rfl⟩
        rw [← hm] at hF HIX H2 HL HO ⊢
        clear hm
        go_wp2_with (first | (go_at_call 58; refine (HIX.out _ ((Below.refl _ _).alloc (Nat.le_refl _) _)).mono ?_; rintro e w1 ⟨rfl, hb1⟩; have HY := Lib.hid (HB2.out w1 (by simpa using hb1)); clear hb1 HIX; have e0 := HY.out.2.1; have e1 := HY.out.2.2) | (at_builtin; go_loud (refine wpList_append_own _ rfl _ _ 80 rfl (w.heap.size + 1) 81 i0 (.agg #[.int .i64 0, .int .i64 0]) 2 16 Tryz.underlying80 hi0 hz0 hz1 hz2 rfl (by decide) (.slice fa m fc) m (pvL F) rfl ((own_below HO.out HY.out.1).alloc _) ⟨w1.heap.size, 0, none⟩ 1 1 [.int .i64 (cA x), .int .i64 (cB x)] rfl rfl (cell_two_new _ _ _ _) (by simp [Value.oneCell']) (by simp only [maxLen]; omega) (by omega) (by have := H.out.nums.lt; have := HY.out.1.size; simp; omega) ?_; intro v2 w6 hown' hgrow _; have K6O := Lib.hid hown'; have K6B : Hid (NB w6 w.heap.size (NumL ls n k)) := (H.out.nums.block (HY.out.1.block _ H.out.nums.lt)).block ((hgrow.block _ (by have := H.out.nums.lt; have := HY.out.1.size; simp; omega) (fun e => by have := (World.ownsRow.lt HO.out _ e.symm).1; omega)).trans (Below.heap_alloc _ _ _ (by have := H.out.nums.lt; have := HY.out.1.size; omega))); have K6W : Hid (Below w.heap.size w w6) := ((H.out.old.trans (HY.out.1.mono H.out.old.size)).alloc (by have := H.out.old.size; have := HY.out.1.size; omega) _).grown hgrow (by have := H.out.old.size; have := HY.out.1.size; simp; omega) (fun q hq => by have := (World.ownsRow.lt HO.out q hq).1; omega); clear hown' hgrow; have hn0 := K6B.out.cell (NumL_at HN.out hlt); have hf0 := K6B.out.frozen k)))
        go_roundg (gk - 1)
        case measure => omega
        case rel =>
          refine ⟨k + 1, by omega, by simp, ?_⟩
          exact H.out.store HN.out hlt H2.out (by rw [HL.out, H1.out, pvL_snoc]; exact K6O.out) K6B.out K6W.out
    · have e : k = n := by omega
      subst e
      have HR : Hid (IntsAt wr (some ⟨w.heap.size, 0, none⟩) (intN (nrmP ls).2)) := by
        have := H.out.nums.ints
        unfold NumL at this
        rw [Nat.sub_self, List.replicate_zero, List.append_nil, List.take_of_length_le (by rw [← HN.out]; omega)] at this
        exact this
      go_wp2_with fail
      go_ret
      exact ⟨_, rfl, HR.out, H.out.old⟩
end Go.Proofs.YteojbichibdhjacGreatDoor
