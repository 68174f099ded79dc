/- Layer 6: a word's number, in the specification. -/
import Derived.Test.YtblmlkmibgklpaaGreatDoorYb
namespace Go.Proofs.YtblmlkmibgklpaaGreatDoor
set_option linter.unusedSimpArgs false
set_option linter.unusedVariables false
open Go Go.RowKit

def valL (l : List UInt8) : Int := l.foldl (fun n c => 10 * n + ((c.toNat : Int) - 48)) 0
theorem valL_step (l : List UInt8) (k : Nat) (hk : k < l.length) : valL (l.take (k + 1)) = 10 * valL (l.take k) + ((l[k].toNat : Int) - 48) := by
  unfold valL; rw [← List.take_append_getElem hk, List.foldl_append]; rfl
theorem valL_small (l : List UInt8) (h : l.all dig = true) (hl : l.length ≤ 1) : 0 ≤ valL l ∧ valL l < 10 := by
  match l, hl with
  | [], _ => exact ⟨by decide, by decide⟩
  | [c], _ =>
    simp only [List.all_cons, List.all_nil, Bool.and_true, dig, Bool.and_eq_true, decide_eq_true_eq] at h
    simp only [valL, List.foldl_cons, List.foldl_nil]
    omega
def perN (l : List UInt8) : Int := (perO l).getD 0
def perB (l : List UInt8) : Bool := (perO l).isSome
theorem perO_none_len {l : List UInt8} (h : l.length < 1 ∨ 2 < l.length) : perO l = none := by
  match l, h with
  | [], _ => rfl
  | [c], h => simp at h
  | [c, d], h => simp at h
  | _ :: _ :: _ :: _, _ => rfl
theorem perO_zero {l : List UInt8} (h2 : l.length = 2) (h : ∀ c, l[0]? = some c → c.toNat = 48) : perO l = none := by
  match l, h2 with
  | [c, d], _ => rw [perO, if_pos (h c rfl)]
theorem perO_val {l : List UInt8} (h1 : l.length = 1 ∨ l.length = 2) (h0 : l.length = 2 → ∀ c, l[0]? = some c → c.toNat ≠ 48) : perO l = if l.all dig then some (valL l) else none := by
  match l, h1 with
  | [c], _ =>
    simp only [perO, List.all_cons, List.all_nil, Bool.and_true]
    split
    · simp [valL]
    · rfl
  | [c, d], _ =>
    rw [perO, if_neg (h0 rfl c rfl)]
    simp only [List.all_cons, List.all_nil, Bool.and_true]
    split
    · simp [valL]
    · rfl
set_option maxRecDepth 100000 in
set_option maxHeartbeats 1000000 in
theorem rperson_any (s : ByteArray) (w : World) (hs : s.size ≤ 100000) :
    Calls Tryz.prog 25 #[.string s] w fun e w' => e = .returned (.tuple #[.int .i64 (perN s.data.toList), .bool (perB s.data.toList)]) ∧ w = w' := by
  have hlen : s.data.toList.length = s.size := by rw [Array.length_toList]; rfl
  by_cases h1 : s.size < 1
  · have HR : Hid (perN s.data.toList = 0 ∧ perB s.data.toList = false) := by rw [Hid, perN, perB, perO_none_len (.inl (by omega))]; exact ⟨rfl, rfl⟩
    rw [HR.out.1, HR.out.2]
    clear hlen HR
    have t1 : decide (s.size < 1) = true := decide_eq_true h1
    go_enter Tryz.func25, Tryz.ntmps25
    go_wp2_with fail
    go_ret2
    exact ⟨rfl, rfl⟩
  by_cases h2 : 2 < s.size
  · have HR : Hid (perN s.data.toList = 0 ∧ perB s.data.toList = false) := by rw [Hid, perN, perB, perO_none_len (.inr (by omega))]; exact ⟨rfl, rfl⟩
    rw [HR.out.1, HR.out.2]
    clear hlen HR
    have t1 : decide (s.size < 1) = false := decide_eq_false h1
    have t2 : decide (2 < s.size) = true := decide_eq_true h2
    go_enter Tryz.func25, Tryz.ntmps25
    go_wp2_with fail
    go_ret2
    exact ⟨rfl, rfl⟩
  have h0s : 0 < s.size := by omega
  have hg0 : s.data.toList[0]? = some s[0] := by
    rw [List.getElem?_eq_getElem (by omega)]; rfl
  by_cases hz : s.size = 2 ∧ s[0].toNat = 48
  · have HR : Hid (perN s.data.toList = 0 ∧ perB s.data.toList = false) := by
      rw [Hid, perN, perB, perO_zero (by omega) (fun c hc => by rw [hg0] at hc; injection hc with hc; rw [← hc]; exact hz.2)]; exact ⟨rfl, rfl⟩
    rw [HR.out.1, HR.out.2]
    obtain ⟨hz1, hz2⟩ := hz
    clear hlen HR hg0
    have t1 : decide (s.size < 1) = false := decide_eq_false h1
    have t2 : decide (2 < s.size) = false := decide_eq_false h2
    go_enter Tryz.func25, Tryz.ntmps25
    go_wp2_with fail
    go_ret2
    exact ⟨rfl, rfl⟩
  have HV : Hid (perO s.data.toList = if s.data.toList.all dig then some (valL s.data.toList) else none) := perO_val (by omega) (fun h c hc e => hz ⟨by omega, by rw [hg0] at hc; injection hc with hc; rw [hc]; exact e⟩)
  have HLEN := Lib.hid hlen
  have HBAD : Hid (∀ k (hk : k < s.size), dig s[k] = false → perN s.data.toList = 0 ∧ perB s.data.toList = false) := fun k hk hd => by
    have : s.data.toList.all dig = false := by
      rw [List.all_eq_false]
      exact ⟨s[k], by rw [show s[k] = s.data.toList[k]'(by omega) from rfl]; exact List.getElem_mem _, by rw [hd]; simp⟩
    rw [perN, perB, HV.out, this]; exact ⟨rfl, rfl⟩
  have t1 : decide (s.size < 1) = false := decide_eq_false h1
  have t2 : decide (2 < s.size) = false := decide_eq_false h2
  have HZ : Hid (¬ (s.size = 2 ∧ s[0].toNat = 48)) := hz
  obtain ⟨R1, hR1⟩ : ∃ R, R = perN s.data.toList := ⟨_, rfl⟩
  obtain ⟨R2, hR2⟩ : ∃ R, R = perB s.data.toList := ⟨_, rfl⟩
  rw [← hR1, ← hR2] at HBAD ⊢
  have HR1 := Lib.hid hR1
  have HR2 := Lib.hid hR2
  clear hz hg0 hlen hR1 hR2
  have t3 : ((s.size : Int) == 2) = true ∧ (((s[0].toNat : Nat) : Int) == 48) = false ∨ ((s.size : Int) == 2) = false := by
    by_cases h3 : s.size = 2
    · refine .inl ⟨by rw [beq_iff_eq]; omega, ?_⟩
      rw [beq_eq_false_iff_ne]
      intro e
      exact HZ.out ⟨h3, by omega⟩
    · exact .inr (by rw [beq_eq_false_iff_ne]; omega)
  go_enter Tryz.func25, Tryz.ntmps25
  rcases t3 with ⟨t3, t4⟩ | t3
  all_goals
    go_wp2_with fail
    go_loopw [4, 5] (fun t4 t5 wr => ∃ k : Nat, k ≤ s.size ∧ t5 = .int .i64 k ∧ t4 = .int .i64 (valL (s.data.toList.take k)) ∧ Hid ((s.data.toList.take k).all dig = true) ∧ w = wr) (fun _ t5 _ => s.size - (intOf t5).toNat)
    case atStart => exact ⟨0, by omega, rfl, rfl, rfl, rfl⟩
    case round =>
      obtain ⟨k, hk, rfl, rfl, HA, rfl⟩ := hrel
      obtain ⟨v, hv⟩ : ∃ v, v = valL (s.data.toList.take k) := ⟨_, rfl⟩
      rw [← hv]
      by_cases hlt : k < s.size
      · have hvb : 0 ≤ v ∧ v < 10 := by
          have := valL_small (s.data.toList.take k) HA.out (by rw [List.length_take]; omega)
          rw [hv]; exact this
        have HST : Hid (valL (s.data.toList.take (k + 1)) = 10 * v + ((s[k].toNat : Int) - 48)) := by
          rw [Hid, hv, valL_step _ _ (by rw [HLEN.out]; exact hlt)]; rfl
        have HNA : Hid (dig s[k] = true → (s.data.toList.take (k + 1)).all dig = true) := fun h => by
          have hkl : k < s.data.toList.length := by rw [HLEN.out]; exact hlt
          rw [← List.take_append_getElem hkl, List.all_append, HA.out]
          simp only [List.all_cons, List.all_nil, Bool.and_true, Bool.true_and]
          exact h
        have HBK := Lib.hid (HBAD.out k hlt)
        have HDG : Hid (dig s[k] = (decide (48 ≤ s[k].toNat) && decide (s[k].toNat ≤ 57))) := rfl
        have t5 : decide (k < s.size) = true := decide_eq_true hlt
        clear hv
        by_cases hlo : s[k].toNat < 48
        · have hR := HBK.out (by rw [HDG.out, decide_eq_false (show ¬ 48 ≤ s[k].toNat by omega)]; rfl)
          have HR := Lib.hid hR
          clear hR
          have t6 : decide (s[k].toNat < 48) = true := decide_eq_true hlo
          go_wp2_with fail
          go_ret2
          exact ⟨by rw [HR.out.1, HR.out.2]; rfl, rfl⟩
        have t6 : decide (s[k].toNat < 48) = false := decide_eq_false hlo
        by_cases hhi : 57 < s[k].toNat
        · have hR := HBK.out (by rw [HDG.out, decide_eq_false (show ¬ s[k].toNat ≤ 57 by omega), Bool.and_false])
          have HR := Lib.hid hR
          clear hR
          have t7 : decide (57 < s[k].toNat) = true := decide_eq_true hhi
          go_wp2_with fail
          go_ret2
          exact ⟨by rw [HR.out.1, HR.out.2]; rfl, rfl⟩
        have t7 : decide (57 < s[k].toNat) = false := decide_eq_false hhi
        have HN2 := Lib.hid (HNA.out (by rw [HDG.out, decide_eq_true (show 48 ≤ s[k].toNat by omega), decide_eq_true (show s[k].toNat ≤ 57 by omega)]; rfl))
        have hw8 : IntKind.u8.wrap ((s[k].toNat : Int) - 48) = (s[k].toNat : Int) - 48 := by
          simp [IntKind.wrap, IntKind.bits, IntKind.signed]; omega
        have hw8' : ((s[k].toNat : Int) - 48) % 256 = (s[k].toNat : Int) - 48 := by omega
        go_wp2_with fail
        exact ⟨⟨k + 1, by omega, by simp, by rw [HST.out], HN2.out, trivial⟩, by simp [intOf]; omega⟩
      · have e : s.data.toList.take k = s.data.toList := List.take_of_length_le (by rw [HLEN.out]; omega)
        have HR : Hid (R1 = v ∧ R2 = true) := by
          have h := HA.out
          rw [e] at h hv
          rw [Hid, HR1.out, HR2.out, perN, perB, HV.out, h, hv]; exact ⟨rfl, rfl⟩
        have t5 : decide (k < s.size) = false := decide_eq_false hlt
        clear hv e
        go_wp2_with fail
        go_ret2
        exact ⟨by rw [HR.out.1, HR.out.2]; rfl, rfl⟩
end Go.Proofs.YtblmlkmibgklpaaGreatDoor
