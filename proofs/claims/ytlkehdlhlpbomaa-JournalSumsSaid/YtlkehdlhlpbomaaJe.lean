/- Layer 9: Sum, in both ways. -/
import Derived.Test.YtlkehdlhlpbomaaJd
namespace Go.Proofs.Ytlkehdlhlpbomaa
set_option linter.unusedSimpArgs false
set_option linter.unusedVariables false
open Go Go.RowKit

def okI (e : Itm) : Bool := okE e.1 e.2.1 e.2.2
def sumR (ls : List Itm) : Value := if ls.all okI then .tuple #[.int .u64 (sumL ls), .int .i64 0] else .tuple #[.int .u64 0, .int .i64 90]
theorem all_step {ls : List Itm} {k : Nat} (hk : k < ls.length) : (ls.take (k + 1)).all okI = ((ls.take k).all okI && okI ls[k]) := by
  rw [← List.take_append_getElem hk, List.all_append]; simp
theorem all_bad {ls : List Itm} {k : Nat} (hk : k < ls.length) (h : okI ls[k] = false) : ls.all okI = false := by
  rw [Bool.eq_false_iff]
  intro h2
  have := List.all_eq_true.1 h2 _ (List.getElem_mem hk)
  rw [h] at this; cases this
set_option maxRecDepth 100000 in
set_option maxHeartbeats 1000000 in
theorem Sum_any (a : Option Addr) (cap : Nat) (ls : List Itm) (w : World) (hls : ∀ e ∈ ls, e.2.2.size ≤ 2500) (hl : ls.length ≤ 1000) (hs : EntsAt w a ls) :
    Calls Try.prog 5 #[.slice a ls.length cap] w fun e w' => e = .returned (sumR ls) ∧ Below w.heap.size w w' := by
  have HS := Lib.hid hs
  have HSUM : Hid (∀ W, Below w.heap.size w W → Calls Try.prog 17 #[.slice a ls.length cap] W fun e w' => e = .returned (.int .u64 (sumL ls)) ∧ Below W.heap.size W w') := Lib.hid fun W hb => sum_any a cap ls W hls hl (hs.below hb)
  obtain ⟨n, hn⟩ : ∃ n, n = ls.length := ⟨_, rfl⟩
  rw [← hn] at hl HSUM ⊢
  have HN := Lib.hid hn
  clear hls hs hn
  go_enter Try.func5, Try.ntmps5
  go_wp2_with fail
  go_loopw [9] (fun ti wr => ∃ k : Nat, k ≤ n ∧ ti = .int .i64 k ∧ Hid ((ls.take k).all okI = true) ∧ Hid (Below w.heap.size w wr)) (fun ti _ => n - (intOf ti).toNat)
  case atStart => exact ⟨0, by omega, rfl, rfl, Below.refl _ _⟩
  case round =>
    obtain ⟨k, hk, rfl, HA, HB⟩ := hrel
    by_cases hlt : k < n
    · have hkl : k < ls.length := by rw [← HN.out]; exact hlt
      have HAS : Hid ((ls.take (k + 1)).all okI = okI ls[k]) := by rw [Hid, all_step hkl, HA.out, Bool.true_and]
      have HBAD : Hid (okI ls[k] = false → ls.all okI = false) := all_bad hkl
      obtain ⟨lb, lo, rfl, hlb, c0, c1, c2⟩ := (HS.out.below HB.out).at hkl
      obtain ⟨x, hx⟩ : ∃ x, x = ls[k] := ⟨_, rfl⟩
      rw [← hx] at HAS HBAD c0 c1 c2
      obtain ⟨eo, en, es⟩ := x
      clear hx hkl HA
      simp only at c0 c1 c2
      obtain ⟨b, hb⟩ : ∃ b, b = okI (eo, en, es) := ⟨_, rfl⟩
      have HC : Hid (∀ W, Calls Try.prog 7 #[.agg #[.int .i64 eo, .int .i64 en, .string es]] W fun e w' => e = .returned (.int .i64 (errE b)) ∧ Below W.heap.size W w') := Lib.hid fun W => by rw [hb]; exact checkEntry_any eo en es W
      rw [← hb] at HAS HBAD
      clear hb
      have hsz := HB.out.size
      cases b with
      | true =>
        go_wp2_with (first | (go_at_call 7; refine (HC.out _).mono ?_; rintro e w5 ⟨rfl, hb5⟩; clear HC; simp only [errE, if_true]))
        exact ⟨⟨k + 1, by omega, by simp, HAS.out, (HB.out.alloc hsz _).trans (hb5.mono (by simp; omega))⟩, by simp [intOf]; omega⟩
      | false =>
        go_wp2_with (first | (go_at_call 7; refine (HC.out _).mono ?_; rintro e w5 ⟨rfl, hb5⟩; clear HC; simp only [errE, Bool.false_eq_true, if_false]))
        go_ret2
        exact ⟨by rw [sumR, HBAD.out trivial]; rfl, (HB.out.alloc hsz _).trans (hb5.mono (by simp; omega))⟩
    · have HE : Hid (ls.all okI = true) := by
        have := HA.out
        rwa [List.take_of_length_le (by rw [← HN.out]; omega)] at this
      go_wp2_with (first | (go_at_call 17; refine (HSUM.out _ HB.out).mono ?_; rintro e w5 ⟨rfl, hb5⟩; clear HSUM))
      go_ret2
      exact ⟨by rw [sumR, HE.out]; rfl, HB.out.trans (hb5.mono HB.out.size)⟩
set_option maxRecDepth 100000 in
set_option maxHeartbeats 1000000 in
theorem rSum_any (a : Option Addr) (cap : Nat) (ls : List Itm) (w : World) (hls : ∀ e ∈ ls, e.2.2.size ≤ 2500) (hl : ls.length ≤ 1000) (hs : EntsAt w a ls) :
    Calls Try.prog 6 #[.slice a ls.length cap] w fun e w' => e = .returned (sumR ls) ∧ Below w.heap.size w w' := by
  have HS := Lib.hid hs
  have HSUM : Hid (∀ W, Below w.heap.size w W → Calls Try.prog 18 #[.slice a ls.length cap] W fun e w' => e = .returned (.int .u64 (sumL ls)) ∧ Below W.heap.size W w') := Lib.hid fun W hb => rsum_any a cap ls W hls hl (hs.below hb)
  obtain ⟨n, hn⟩ : ∃ n, n = ls.length := ⟨_, rfl⟩
  rw [← hn] at hl HSUM ⊢
  have HN := Lib.hid hn
  clear hls hs hn
  go_enter Try.func6, Try.ntmps6
  go_wp2_with fail
  go_loopw [4] (fun ti wr => ∃ k : Nat, k ≤ n ∧ ti = .int .i64 k ∧ Hid ((ls.take k).all okI = true) ∧ Hid (Below w.heap.size w wr)) (fun ti _ => n - (intOf ti).toNat)
  case atStart => exact ⟨0, by omega, rfl, rfl, Below.refl _ _⟩
  case round =>
    obtain ⟨k, hk, rfl, HA, HB⟩ := hrel
    by_cases hlt : k < n
    · have hkl : k < ls.length := by rw [← HN.out]; exact hlt
      have HAS : Hid ((ls.take (k + 1)).all okI = okI ls[k]) := by rw [Hid, all_step hkl, HA.out, Bool.true_and]
      have HBAD : Hid (okI ls[k] = false → ls.all okI = false) := all_bad hkl
      obtain ⟨lb, lo, rfl, hlb, c0, c1, c2⟩ := (HS.out.below HB.out).at hkl
      obtain ⟨x, hx⟩ : ∃ x, x = ls[k] := ⟨_, rfl⟩
      rw [← hx] at HAS HBAD c0 c1 c2
      obtain ⟨eo, en, es⟩ := x
      clear hx hkl HA
      simp only at c0 c1 c2
      obtain ⟨b, hb⟩ : ∃ b, b = okI (eo, en, es) := ⟨_, rfl⟩
      have HC : Hid (∀ W, Calls Try.prog 8 #[.agg #[.int .i64 eo, .int .i64 en, .string es]] W fun e w' => e = .returned (.int .i64 (errE b)) ∧ Below W.heap.size W w') := Lib.hid fun W => by rw [hb]; exact rcheckEntry_any eo en es W
      rw [← hb] at HAS HBAD
      clear hb
      have hsz := HB.out.size
      cases b with
      | true =>
        go_wp2_with (first | (go_at_call 8; refine (HC.out _).mono ?_; rintro e w5 ⟨rfl, hb5⟩; clear HC; simp only [errE, if_true]))
        exact ⟨⟨k + 1, by omega, by simp, HAS.out, HB.out.trans (hb5.mono (by omega))⟩, by simp [intOf]; omega⟩
      | false =>
        go_wp2_with (first | (go_at_call 8; refine (HC.out _).mono ?_; rintro e w5 ⟨rfl, hb5⟩; clear HC; simp only [errE, Bool.false_eq_true, if_false]))
        go_ret2
        exact ⟨by rw [sumR, HBAD.out trivial]; rfl, HB.out.trans (hb5.mono (by omega))⟩
    · have HE : Hid (ls.all okI = true) := by
        have := HA.out
        rwa [List.take_of_length_le (by rw [← HN.out]; omega)] at this
      go_wp2_with (first | (go_at_call 18; refine (HSUM.out _ HB.out).mono ?_; rintro e w5 ⟨rfl, hb5⟩; clear HSUM))
      go_ret2
      exact ⟨by rw [sumR, HE.out]; rfl, HB.out.trans (hb5.mono HB.out.size)⟩
end Go.Proofs.Ytlkehdlhlpbomaa
