/- Layer 6: Parse of the program. -/
import Derived.Test.YtblmlkmibgklpaaGreatDoorYd
namespace Go.Proofs.YtblmlkmibgklpaaGreatDoor
set_option linter.unusedSimpArgs false
set_option linter.unusedVariables false
open Go Go.RowKit

theorem prog_yes {s : List UInt8} (h : okP (numP s) = true) (h2 : prn (numP s) = s) : parR s = numP s ∧ parE s = 0 := by
  have := progS_eq s
  unfold progS at this
  rw [if_pos ⟨h, h2⟩] at this
  unfold parR parE; rw [← this]; exact ⟨rfl, rfl⟩
theorem prog_no {s : List UInt8} (h : ¬ (okP (numP s) = true ∧ prn (numP s) = s)) : parR s = [] ∧ parE s = 3 := by
  have := progS_eq s
  unfold progS at this
  rw [if_neg h] at this
  unfold parR parE; rw [← this]; exact ⟨rfl, rfl⟩
/-- The first k words' numbers, in memory. -/
structure WS (w : World) (ns : List Int) (k : Nat) (tf : Value) (wr : World) : Prop where
  own : wr.ownsRow w.heap.size 3 1 tf k (ivL (ns.take k))
  old : Below w.heap.size w wr
theorem WS.below {w wr wx : World} {ns : List Int} {k : Nat} {tf : Value} (h : WS w ns k tf wr) (hb : Below wr.heap.size wr wx) : WS w ns k tf wx := by
  refine ⟨⟨h.own.1, h.own.2.imp id fun ⟨g, cap, cur, h1, h2, h3, h4⟩ => ⟨g, cap, cur, h1, h2, (hb.block g (Array.getElem?_eq_some_iff.1 h3).1).trans h3, h4⟩⟩, h.old.trans (hb.mono h.old.size)⟩
theorem WS.add {w wr w6 : World} {ns : List Int} {k : Nat} {x : Int} {tf v2 : Value} (h : WS w ns k tf wr) (hk : ns[k]? = some x)
    (hO : w6.ownsRow w.heap.size 3 1 v2 (k + 1) (ivL (ns.take k) ++ [.int .i64 x])) (hg : (wr.alloc (.cells #[.int .i64 x] 3)).grownBy w6 tf.ownBlock) : WS w ns (k + 1) v2 w6 := by
  refine ⟨?_, (h.old.alloc h.old.size _).grown hg (by have := h.old.size; simp; omega) (fun q hq => (World.ownsRow.lt h.own q hq).1)⟩
  have hkl := (List.getElem?_eq_some_iff.1 hk).1
  have e : ns.take (k + 1) = ns.take k ++ [x] := by rw [← List.take_append_getElem hkl, (List.getElem?_eq_some_iff.1 hk).2]
  rw [e, ivL_snoc]
  exact hO
theorem prnR_eq {s : ByteArray} {ls : List Int} (h : okP ls = true) : (prnR ls = s) ↔ prn ls = s.data.toList := by
  unfold prnR
  rw [if_pos h]
  constructor
  · rintro rfl; simp
  · intro e; exact ba_ext (by rw [← e])
theorem words_bound {s : ByteArray} : ∀ {k : Nat} {x : ByteArray}, x ∈ Lib.splitB ⟨#[32]⟩ 0 k s → x.size ≤ s.size
  | 0, x, h => by rw [Lib.splitB_zero, List.mem_singleton] at h; rw [h]; exact Nat.le_refl _
  | k + 1, x, h => by
    unfold Lib.splitB at h
    split at h
    · rw [List.mem_singleton] at h; rw [h]; exact Nat.le_refl _
    · rw [List.mem_cons] at h
      rcases h with rfl | h
      · simp; omega
      · have := words_bound h
        simp at this
        omega
set_option maxRecDepth 100000 in
set_option maxHeartbeats 1000000 in
theorem parse_any {G : World → Prop} (L : Lb G) (s : ByteArray) (w : World) (hG : G w) (hs : s.size ≤ 1000) :
    Calls Tryz.prog 7 #[.string s] w fun e w' => ∃ r c, e = .returned (.tuple #[.slice r (parR s.data.toList).length c, .int .i64 (parE s.data.toList)]) ∧ IntsAt w' r (parR s.data.toList) ∧ Below w.heap.size w w' := by
  have hlen : s.data.toList.length = s.size := by rw [Array.length_toList]; rfl
  obtain ⟨ws, hws⟩ : ∃ ws, ws = Lib.splitB ⟨#[32]⟩ 0 (min 32 (s.size + 1) - 1) s := ⟨_, rfl⟩
  obtain ⟨ns, hns⟩ : ∃ ns, ns = ws.map fun x => atV x.data.toList := ⟨_, rfl⟩
  have hnum : numP s.data.toList = ns := by
    unfold numP
    rw [hlen, hns, hws, show ([32] : List UInt8) = (⟨#[32]⟩ : ByteArray).data.toList from rfl, ← Lib.splitB_data, List.map_map]
    rfl
  have hwl : ws.length ≤ 32 := by rw [hws]; have := Lib.splitB_length_le ⟨#[32]⟩ 0 (min 32 (s.size + 1) - 1) s; omega
  have hwb : ∀ x ∈ ws, x.size ≤ 2000 := fun x hx => by rw [hws] at hx; have := words_bound hx; omega
  have HSP := Lib.hid (L.split s w hG (by omega))
  rw [← hws] at HSP
  obtain ⟨R, hR⟩ : ∃ R, R = parR s.data.toList := ⟨_, rfl⟩
  obtain ⟨E, hE⟩ : ∃ E, E = parE s.data.toList := ⟨_, rfl⟩
  have HY : Hid (okP ns = true → prnR ns = s → R = ns ∧ E = 0) := fun h1 h2 => by
    rw [hR, hE, ← hnum] at *
    exact prog_yes h1 ((prnR_eq h1).1 h2)
  have HNO : Hid (¬ (okP ns = true ∧ prnR ns = s) → R = [] ∧ E = 3) := fun h => by
    rw [hR, hE, ← hnum] at *
    exact prog_no fun ⟨h1, h2⟩ => h ⟨h1, (prnR_eq h1).2 h2⟩
  rw [← hR, ← hE]
  obtain ⟨n, hn⟩ : ∃ n, n = ws.length := ⟨_, rfl⟩
  have hnl : ns.length = n := by rw [hns, hn, List.length_map]
  have HW : Hid (∀ k (hk : k < n), ∃ x, ws[k]? = some x ∧ ns[k]? = some (atV x.data.toList) ∧ x.size ≤ 2000) := fun k hk => by
    have hkl : k < ws.length := by omega
    refine ⟨ws[k], List.getElem?_eq_getElem hkl, ?_, hwb _ (List.getElem_mem hkl)⟩
    rw [hns, List.getElem?_map, List.getElem?_eq_getElem hkl]; rfl
  rw [← hn] at HSP hwl
  have HNL := Lib.hid hnl
  have HL := Lib.hid L
  have HG := Lib.hid hG
  clear hR hE hws hns hnum hwb hn hnl hlen L hG
  obtain ⟨i0, hi0, hz0, hz1, hz2⟩ := info_parts infoInt
  go_enter Tryz.func7, Tryz.ntmps7
  go_wp2_with (first | (go_at_call 23; refine HSP.out.mono ?_; rintro e w1 ⟨c, rfl, hlt1, hc1, hb1⟩; have HC1 : Hid (∀ (k : Nat) (x : ByteArray), ws[k]? = some x → w1.cell? ⟨w.heap.size, 0 + k, none⟩ = some (.string x)) := hc1; have HB1 := Lib.hid hb1; have HLT := Lib.hid hlt1; clear hc1 hb1 hlt1))
  go_loopg [4, 14] n (fun g t4 t14 wr => ∃ k : Nat, k + g = n ∧ t14 = .int .i64 k ∧ Hid (WS w1 ns k t4 wr))
  case atStart => exact ⟨0, by omega, rfl, World.ownsRow_nil _ _ _ _, Below.refl _ _⟩
  case round =>
    obtain ⟨k, hkg, rfl, H⟩ := hrel
    have HOW := Lib.hid (HB1.out.trans (H.out.old.mono HB1.out.size))
    by_cases hlt : k < n
    · obtain ⟨x, hx1, hx2, hxs⟩ := HW.out k hlt
      have c0 : wr.cell? ⟨w.heap.size, 0 + k, none⟩ = some (.string x) := by rw [H.out.old.cell (by exact HLT.out)]; exact HC1.out k x hx1
      have HA := Lib.hid (HL.out.ato x wr (HL.out.keep _ _ HG.out HOW.out) hxs)
      have HX2 := Lib.hid hx2
      obtain ⟨v, hv⟩ : ∃ v, v = atV x.data.toList := ⟨_, rfl⟩
      rw [← hv] at HA HX2
      rw [Nat.zero_add] at c0
      clear hx1 hx2 hxs hv
      go_wp2_with (first | (go_at_call 24; refine HA.out.mono ?_; rintro e w2 ⟨y, rfl, hb⟩; have H2 := Lib.hid (H.out.below hb); clear hb) | (at_builtin; go_loud (refine wpList_append_own _ rfl _ _ 22 rfl w1.heap.size 3 i0 (.int .i64 0) 1 8 Tryz.underlying22 hi0 hz0 hz1 hz2 rfl (by decide) u4 k (ivL (ns.take k)) rfl (H2.out.own.alloc _) ⟨w2.heap.size, 0, none⟩ 1 1 [.int .i64 v] rfl rfl (cell_one_new _ _ _) (by simp [Value.oneCell']) (by simp only [maxLen]; omega) (by omega) (by have := H2.out.old.size; simp; omega) ?_; intro v2 w6 hown' hgrow _; have K6 := Lib.hid (H2.out.add HX2.out hown' hgrow); clear hown' hgrow)))
      go_roundg (gk - 1)
      case measure => omega
      case rel => exact ⟨k + 1, by omega, by simp, K6.out⟩
    · have e : k = n := by omega
      subst e
      have hO := H.out.own
      rw [List.take_of_length_le (by rw [HNL.out]; omega)] at hO
      obtain ⟨fa, fc, rfl, hkk, hfi⟩ := own_ints hO
      rw [← hkk]
      have HFI := Lib.hid hfi
      have hpr := print_any HL.out fa fc ns wr (HL.out.keep _ _ HG.out HOW.out) (by omega) hfi
      rw [← hkk] at hpr
      have HPR := Lib.hid hpr
      have HKK := Lib.hid hkk
      unfold chkE at HPR
      clear hkk hfi hO hpr
      obtain ⟨T, hT⟩ : ∃ T, T = prnR ns := ⟨_, rfl⟩
      rw [← hT] at HPR HY HNO
      clear hT
      cases hok : okP ns with
      | false =>
        rw [hok] at HPR
        have HR := Lib.hid (HNO.out (by rw [hok]; intro h; cases h.1))
        clear hok
        go_wp2_with (first | (go_at_call 5; refine HPR.out.mono ?_; rintro e w3 ⟨rfl, hb⟩; simp only [Bool.false_eq_true, if_false]))
        go_ret2
        rw [HR.out.1, HR.out.2]
        first | exact ⟨none, 0, rfl, .inl rfl, HOW.out.trans (hb.mono HOW.out.size)⟩ | exact ⟨none, ⟨0, rfl⟩, .inl rfl, HOW.out.trans (hb.mono HOW.out.size)⟩
      | true =>
        rw [hok] at HPR
        by_cases hTs : T = s
        · have HR := Lib.hid (HY.out hok hTs)
          subst hTs
          clear hok
          go_wp2_with (first | (go_at_call 5; refine HPR.out.mono ?_; rintro e w3 ⟨rfl, hb⟩; simp only [if_true]))
          go_ret2
          rw [HR.out.1, HR.out.2, ← HKK.out]
          first | exact ⟨_, _, rfl, HFI.out.below hb, HOW.out.trans (hb.mono HOW.out.size)⟩ | exact ⟨_, ⟨_, rfl⟩, HFI.out.below hb, HOW.out.trans (hb.mono HOW.out.size)⟩
        · have HR := Lib.hid (HNO.out (fun h => hTs h.2))
          have t3 : (T.toList == s.toList) = false := by
            rw [beq_eq_false_iff_ne]
            intro e
            rw [ByteArray.toList_eq, ByteArray.toList_eq] at e
            exact hTs (ba_ext e)
          clear hok
          go_wp2_with (first | (go_at_call 5; refine HPR.out.mono ?_; rintro e w3 ⟨rfl, hb⟩; simp only [if_true]))
          go_ret2
          rw [HR.out.1, HR.out.2]
          first | exact ⟨none, 0, rfl, .inl rfl, HOW.out.trans (hb.mono HOW.out.size)⟩ | exact ⟨none, ⟨0, rfl⟩, .inl rfl, HOW.out.trans (hb.mono HOW.out.size)⟩
end Go.Proofs.YtblmlkmibgklpaaGreatDoor
