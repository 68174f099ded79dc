/- Layer 9: the sum of a text's bytes. -/
import Derived.Test.YtlkehdlhlpbomaaJa
namespace Go.Proofs.Ytlkehdlhlpbomaa
set_option linter.unusedSimpArgs false
set_option linter.unusedVariables false
open Go Go.RowKit

/-- What a sum becomes with a byte. -/
def mixS (h : Int) (b : UInt8) : Int := IntKind.u64.wrap (bits .xor .u64 h (IntKind.u64.wrap (b.toNat : Int)) * 1099511628211)
def mixL (h : Int) (l : List UInt8) : Int := l.foldl mixS h
theorem mixL_step (l : List UInt8) (h : Int) (k : Nat) (hk : k < l.length) : mixL h (l.take (k + 1)) = mixS (mixL h (l.take k)) l[k] := by
  unfold mixL
  rw [← List.take_append_getElem hk, List.foldl_append]
  rfl
set_option maxRecDepth 100000 in
theorem mix_any (h : Int) (s : ByteArray) (w : World) (hs : s.size ≤ 100000) :
    Calls Try.prog 47 #[.int .u64 h, .string s] w fun e w' => e = .returned (.int .u64 (mixL h s.data.toList)) ∧ w = w' := by
  have hlen : s.data.toList.length = s.size := by rw [Array.length_toList]; rfl
  have HLEN := Lib.hid hlen
  clear hlen
  go_enter Try.func47, Try.ntmps47
  go_wp2_with fail
  go_loopw [0, 8] (fun th ti wr => ∃ k : Nat, k ≤ s.size ∧ ti = .int .i64 k ∧ th = .int .u64 (mixL h (s.data.toList.take k)) ∧ w = wr) (fun _ ti _ => s.size - (intOf ti).toNat)
  case atStart => exact ⟨0, by omega, rfl, rfl, rfl⟩
  case round =>
    obtain ⟨k, hk, rfl, rfl, rfl⟩ := hrel
    obtain ⟨g, hg⟩ : ∃ g, g = mixL h (s.data.toList.take k) := ⟨_, rfl⟩
    rw [← hg]
    by_cases hlt : k < s.size
    · have HST : Hid (mixL h (s.data.toList.take (k + 1)) = mixS g s[k]) := by
        rw [Hid, hg, mixL_step _ _ _ (by rw [HLEN.out]; exact hlt)]; rfl
      clear hg
      have t2 : decide (k < s.size) = true := decide_eq_true hlt
      go_wp2_with fail
      exact ⟨⟨k + 1, by omega, by simp, by rw [HST.out, mixS], trivial⟩, by simp [intOf]; omega⟩
    · have HE : Hid (g = mixL h s.data.toList) := by
        rw [Hid, hg, List.take_of_length_le (by rw [HLEN.out]; omega)]
      clear hg
      have t2 : decide (k < s.size) = false := decide_eq_false hlt
      go_wp2_with fail

      go_ret
      exact ⟨by rw [HE.out]; rfl, rfl⟩
end Go.Proofs.Ytlkehdlhlpbomaa
