/- Layer 6: Parse of the specification. -/
import Derived.Test.YtblmlkmibgklpaaGreatDoorYc
namespace Go.Proofs.YtblmlkmibgklpaaGreatDoor
set_option linter.unusedSimpArgs false
set_option linter.unusedVariables false
open Go Go.RowKit

def parR (s : List UInt8) : List Int := (parseS s).getD []
def parE (s : List UInt8) : Int := if (parseS s).isSome then 0 else 3
theorem parse_bad {s : List UInt8} (h : psS [] [] s = none) : parR s = [] ∧ parE s = 3 := by
  unfold parR parE parseS; rw [h]; exact ⟨rfl, rfl⟩
theorem parse_some {s : List UInt8} {O : List Int} (h : psS [] [] s = some O) : parR s = (if okP O then O else []) ∧ parE s = if okP O then 0 else 3 := by
  unfold parR parE parseS; rw [h]; cases hk : okP O <;> simp [hk]
/-- What is left to do at place k. -/
def psD (O : List Int) (W s : List UInt8) (k : Nat) : Option (List Int) := if k ≤ s.length then psS O W (s.drop k) else some O
theorem psD_zero (s : List UInt8) : psD [] [] s 0 = psS [] [] s := by simp [psD]
theorem psD_char {O : List Int} {W s : List UInt8} {k : Nat} (hk : k < s.length) (h : s[k] ≠ 32) : psD O W s k = psD O (W ++ [s[k]]) s (k + 1) := by
  unfold psD
  rw [if_pos (by omega), if_pos (by omega), ← List.getElem_cons_drop hk, psS, if_neg h]
theorem psD_word {O : List Int} {W s : List UInt8} {k : Nat} (hk : k ≤ s.length) (h : ∀ hk : k < s.length, s[k] = 32) : psD O W s k = match perO W with | none => none | some n => psD (O ++ [n]) [] s (k + 1) := by
  unfold psD
  rw [if_pos hk]
  by_cases hlt : k < s.length
  · rw [← List.getElem_cons_drop hlt, psS, if_pos (h hlt)]
    cases perO W with
    | none => rfl
    | some n => simp only; rw [if_pos (by omega)]
  · rw [List.drop_of_length_le (by omega), psS]
    cases perO W with
    | none => rfl
    | some n => simp only [Option.map_some]; rw [if_neg (by omega)]
/-- The numbers so far, in memory. -/
structure OS (w : World) (O : List Int) (tf : Value) (wr : World) : Prop where
  own : wr.ownsRow w.heap.size 3 1 tf O.length (ivL O)
  old : Below w.heap.size w wr
theorem OS.add {w wr w6 : World} {O : List Int} {n : Int} {m : Nat} {tf v2 : Value} (h : OS w O tf wr) (hm : m = O.length)
    (hO : w6.ownsRow w.heap.size 3 1 v2 (m + 1) (ivL O ++ [.int .i64 n])) (hg : (wr.alloc (.cells #[.int .i64 n] 3)).grownBy w6 tf.ownBlock) : OS w (O ++ [n]) v2 w6 := by
  refine ⟨?_, (h.old.alloc h.old.size _).grown hg (by have := h.old.size; simp; omega) (fun q hq => (World.ownsRow.lt h.own q hq).1)⟩
  rw [ivL_snoc, List.length_append, List.length_singleton, ← hm]
  exact hO
theorem ext_one (s : ByteArray) (k : Nat) (hk : k < s.size) : (s.extract k (k + 1)).data.toList = [s[k]] := by
  have hl : s.data.toList.length = s.size := by rw [Array.length_toList]; rfl
  rw [Lib.extract_data]
  have hkl : k < s.data.toList.length := by omega
  rw [← List.getElem_cons_drop hkl, show k + 1 - k = 1 by omega]
  rfl
set_option maxRecDepth 100000 in
set_option maxHeartbeats 1000000 in
theorem rparse_any (s : ByteArray) (w : World) (hs : s.size ≤ 1000) :
    Calls Tryz.prog 8 #[.string s] w fun e w' => ∃ r c, e = .returned (.tuple #[.slice r (parR s.data.toList).length c, .int .i64 (parE s.data.toList)]) ∧ IntsAt w' r (parR s.data.toList) ∧ Below w.heap.size w w' := by
  have hlen : s.data.toList.length = s.size := by rw [Array.length_toList]; rfl
  have HLEN := Lib.hid hlen
  obtain ⟨S, hS⟩ : ∃ S, S = s.data.toList := ⟨_, rfl⟩
  rw [← hS] at HLEN ⊢
  have HS := Lib.hid hS
  have HBAD : Hid (psS [] [] S = none → parR S = [] ∧ parE S = 3) := fun h => parse_bad h
  have HGOOD : Hid (∀ O, psS [] [] S = some O → parR S = (if okP O then O else []) ∧ parE S = if okP O then 0 else 3) := fun O h => parse_some h
  obtain ⟨R, hR⟩ : ∃ R, R = parR S := ⟨_, rfl⟩
  obtain ⟨E, hE⟩ : ∃ E, E = parE S := ⟨_, rfl⟩
  rw [← hR, ← hE] at HBAD HGOOD
  rw [← hR, ← hE]
  clear hlen hS hR hE
  obtain ⟨i0, hi0, hz0, hz1, hz2⟩ := info_parts infoInt
  go_enter Tryz.func8, Tryz.ntmps8
  go_wp2_with fail
  go_loopw [4, 5, 6] (fun t4 t5 t6 wr => ∃ (k : Nat) (O : List Int) (W : ByteArray), k ≤ s.size + 1 ∧ O.length ≤ k ∧ W.size ≤ k ∧ t6 = .int .i64 k ∧ t5 = .string W ∧ Hid (psS [] [] S = psD O W.data.toList S k) ∧ Hid (OS w O t4 wr)) (fun _ _ t6 _ => (s.size + 1) - (intOf t6).toNat)
  case atStart => exact ⟨0, [], ⟨#[]⟩, by omega, by simp, by simp [ByteArray.size], rfl, rfl, (psD_zero S).symm, World.ownsRow_nil _ _ _ _, Below.refl _ _⟩
  case round =>
    obtain ⟨k, O, W, hk, hO, hW, rfl, rfl, HD, H⟩ := hrel
    obtain ⟨fa, fc, rfl, _, hfi⟩ := own_ints H.out.own
    by_cases hle : k ≤ s.size
    · have t1 : decide (k ≤ s.size) = true := decide_eq_true hle
      clear hfi
      have hword : (∀ hk : k < S.length, S[k] = 32) → True := fun _ => trivial
      by_cases hch : ∃ h : k < s.size, s[k] ≠ 32
      · obtain ⟨hlt, hne⟩ := hch
        have t2 : decide (k < s.size) = true := decide_eq_true hlt
        have t3 : ((s[k].toNat : Int) == 32) = false := by
          rw [beq_eq_false_iff_ne]; intro e; exact hne (u8_eq (by show s[k].toNat = 32; omega))
        have HND : Hid (psS [] [] S = psD O (W ++ s.extract k (k + 1)).data.toList S (k + 1)) := by
          have hkl : k < S.length := by rw [HLEN.out]; exact hlt
          have hsk : S[k] = s[k] := by have h := HS.out; subst h; rfl
          rw [Hid, HD.out, psD_char hkl (by rw [hsk]; exact hne), ba_app, ext_one s k hlt, hsk]
        have hsz : (s.extract k (k + 1)).size = 1 := by
          have h := congrArg List.length (ext_one s k hlt)
          rw [Array.length_toList, List.length_singleton] at h
          exact h
        have q1 : W.size + (s.extract k (k + 1)).size ≤ 9223372036854775807 := by omega
        have HSZ : Hid ((W ++ s.extract k (k + 1)).size ≤ k + 1) := by rw [Hid, ba_app_size, hsz]; omega
        clear hne hsz
        go_wp2_with fail
        exact ⟨⟨k + 1, O, W ++ s.extract k (k + 1), by omega, by omega, HSZ.out, by simp, rfl, HND.out, H.out⟩, by simp [intOf]; omega⟩
      · have hsp : ∀ h : k < S.length, S[k] = 32 := fun h => by
          have h2 : k < s.size := by rw [HLEN.out] at h; exact h
          have hsk : S[k] = s[k] := by have h := HS.out; subst h; rfl
          rw [hsk]
          exact Classical.byContradiction fun hne => hch ⟨h2, hne⟩
        have HDW := Lib.hid (psD_word (O := O) (W := W.data.toList) (s := S) (by rw [HLEN.out]; exact hle) hsp)
        have HPER := Lib.hid (rperson_any W wr (by omega))
        have t23 : decide (k < s.size) = false ∨ ∃ h : k < s.size, decide (k < s.size) = true ∧ ((s[k].toNat : Int) == 32) = true := by
          by_cases h : k < s.size
          · refine .inr ⟨h, decide_eq_true h, ?_⟩
            have hsk : S[k]'(by rw [HLEN.out]; exact h) = s[k] := by have h := HS.out; subst h; rfl
            have := hsp (by rw [HLEN.out]; exact h)
            rw [hsk] at this
            rw [this]; rfl
          · exact .inl (decide_eq_false h)
        obtain ⟨m, hm⟩ : ∃ m, m = O.length := ⟨_, rfl⟩
        have HM := Lib.hid hm
        rw [← hm] at hO ⊢
        clear hsp hch hm
        cases hp : perO W.data.toList with
        | none =>
          have HR : Hid (R = [] ∧ E = 3) := by
            have h := HBAD.out (by rw [HD.out, HDW.out, hp])
            exact h
          rw [show perN W.data.toList = 0 by rw [perN, hp]; rfl, show perB W.data.toList = false by rw [perB, hp]; rfl] at HPER
          clear hp HDW HBAD HGOOD HD
          rcases t23 with t2 | ⟨hlt, t2, t3⟩
          all_goals
            go_wp2_with (first | (go_at_call 25; refine HPER.out.mono ?_; rintro e w2 ⟨rfl, rfl⟩))
            go_ret2
            rw [HR.out.1, HR.out.2]
            exact ⟨none, 0, rfl, .inl rfl, H.out.old⟩
        | some x =>
          have HND : Hid (psS [] [] S = psD (O ++ [x]) [] S (k + 1)) := by
            rw [Hid, HD.out, HDW.out, hp]
          have HO : Hid (wr.ownsRow w.heap.size 3 1 (.slice fa m fc) m (ivL O)) := by rw [Hid, HM.out]; exact H.out.own
          rw [show perN W.data.toList = x by rw [perN, hp]; rfl, show perB W.data.toList = true by rw [perB, hp]; rfl] at HPER
          have HLN : Hid ((O ++ [x]).length = m + 1) := by rw [Hid, HM.out]; simp
          have HA : Hid (∀ v2 w6, w6.ownsRow w.heap.size 3 1 v2 (m + 1) (ivL O ++ [.int .i64 x]) → (wr.alloc (.cells #[.int .i64 x] 3)).grownBy w6 (Value.slice fa m fc).ownBlock → OS w (O ++ [x]) v2 w6) := fun v2 w6 h1 h2 => by
            have hh := H.out
            rw [← HM.out] at hh
            exact hh.add HM.out h1 h2
          clear hp HDW HBAD HGOOD HD
          rcases t23 with t2 | ⟨hlt, t2, t3⟩
          all_goals
            go_wp2_with (first | (go_at_call 25; refine HPER.out.mono ?_; rintro e w2 ⟨rfl, rfl⟩) | (at_builtin; go_loud (refine wpList_append_own _ rfl _ _ 22 rfl w.heap.size 3 i0 (.int .i64 0) 1 8 Tryz.underlying22 hi0 hz0 hz1 hz2 rfl (by decide) (.slice fa m fc) m (ivL O) rfl (HO.out.alloc _) ⟨wr.heap.size, 0, none⟩ 1 1 [.int .i64 x] rfl rfl (cell_one_new _ _ _) (by simp [Value.oneCell']) (by simp only [maxLen]; omega) (by omega) (by have := H.out.old.size; simp; omega) ?_; intro v2 w6 hown' hgrow _; have K6 := Lib.hid (HA.out v2 w6 hown' hgrow); clear hown' hgrow)))
            exact ⟨⟨k + 1, O ++ [x], ⟨#[]⟩, by omega, by rw [HLN.out]; omega, by simp [ByteArray.size], by simp, rfl, HND.out, K6.out⟩, by simp [intOf]; omega⟩
    · have t1 : decide (k ≤ s.size) = false := decide_eq_false hle
      have HSO : Hid (psS [] [] S = some O) := by
        rw [Hid, HD.out, psD, if_neg (by rw [HLEN.out]; omega)]
      have HR := Lib.hid (HGOOD.out O HSO.out)
      have HCH := Lib.hid (rchk_any fa fc O wr (by omega) hfi)
      have HFI := Lib.hid hfi
      obtain ⟨m, hm⟩ : ∃ m, m = O.length := ⟨_, rfl⟩
      have HM := Lib.hid hm
      rw [← hm] at hO HCH ⊢
      unfold chkE at HCH
      clear hfi hm HGOOD HBAD HD
      cases hok : okP O with
      | false =>
        rw [hok] at HCH HR
        clear hok
        go_wp2_with (first | (go_at_call 22; refine HCH.out.mono ?_; rintro e w2 ⟨rfl, rfl⟩; simp only [Bool.false_eq_true, if_false]))
        go_ret2
        have HR2 : Hid (R = [] ∧ E = 3) := HR.out
        rw [HR2.out.1, HR2.out.2]
        first | exact ⟨none, 0, rfl, .inl rfl, H.out.old⟩ | exact ⟨none, ⟨0, rfl⟩, .inl rfl, H.out.old⟩
      | true =>
        rw [hok] at HCH HR
        clear hok
        go_wp2_with (first | (go_at_call 22; refine HCH.out.mono ?_; rintro e w2 ⟨rfl, rfl⟩; simp only [if_true]))
        go_ret2
        have HR2 : Hid (R = O ∧ E = 0) := HR.out
        rw [HR2.out.1, HR2.out.2, ← HM.out]
        first | exact ⟨_, _, rfl, HFI.out, H.out.old⟩ | exact ⟨_, ⟨_, rfl⟩, HFI.out, H.out.old⟩
end Go.Proofs.YtblmlkmibgklpaaGreatDoor
