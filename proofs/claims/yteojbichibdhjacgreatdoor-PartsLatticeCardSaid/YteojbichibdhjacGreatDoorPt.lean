/- math/bits.TrailingZeros16: every x. -/
import Derived.Test.YteojbichibdhjacGreatDoorProg
import Derived.WalkKit
import Derived.KernelRfl
import Derived.Lib.TrailingZeros
import Derived.Shelf.Spec.TrailingZeros
namespace Go.Proofs.YteojbichibdhjacGreatDoor
set_option linter.unusedSimpArgs false
set_option linter.unusedVariables false
open Go Go.RowKit

theorem wrap_u16' (n : Int) : IntKind.u16.wrap n = n % 65536 := by simp [IntKind.wrap, IntKind.signed, IntKind.bits]
theorem bits_and_u16_nat (a b : Nat) (ha : a < 65536) (hb : b < 65536) : bits .and .u16 (a : Int) (b : Int) = ((a &&& b : Nat) : Int) := by
  have hx : a &&& b < 2 ^ 16 := Nat.and_lt_two_pow _ (by omega)
  have h1 : (BitVec.ofInt 16 (a : Int)).toNat = a := by
    rw [BitVec.ofInt_natCast, BitVec.toNat_ofNat]; exact Nat.mod_eq_of_lt (by omega)
  have h2 : (BitVec.ofInt 16 (b : Int)).toNat = b := by
    rw [BitVec.ofInt_natCast, BitVec.toNat_ofNat]; exact Nat.mod_eq_of_lt (by omega)
  show IntKind.u16.wrap ((BitVec.ofInt 16 (a : Int) &&& BitVec.ofInt 16 (b : Int)).toNat : Int) = _
  rw [BitVec.toNat_and, h1, h2, wrap_u16']
  omega
theorem tz16_key (x a : Nat) (hx : x < 65536) (hx0 : x ≠ 0) (hlow : x &&& (65536 - x) = a) : bits BinOp.and IntKind.u16 (x : Int) (-(x : Int) % 65536) = (a : Int) := by
  have e1 : -(x : Int) % 65536 = ((65536 - x : Nat) : Int) := by omega
  rw [e1, bits_and_u16_nat x _ hx (by omega), hlow]
theorem tz16_core (x k idx : Nat) (w : World) (hx0 : ((x : Int) == 0) = false)
    (key : bits BinOp.and IntKind.u16 (x : Int) (IntKind.u16.wrap (-(x : Int))) % 4294967296 * 125613361 % 4294967296 / 134217728 = (idx : Int))
    (hi : idx < 32) (hk : k < 32) (hcell : w.cell? ⟨2, idx, none⟩ = some (.int .u8 k)) :
    Calls Tryz.prog 126 #[.int .u16 x] w fun e w' => e = .returned (.int .i64 k) ∧ w' = w := by
  go_enter Tryz.func126, Tryz.ntmps126
  go_wp2_with (simp only [key])
  go_ret
  exact ⟨rfl, rfl⟩
theorem tz16_any (x : Nat) (hx : x < 65536) (w : World) (hT : x ≠ 0 → TabAt 2 Lib.deBruijn32tab w) :
    Calls Tryz.prog 126 #[.int .u16 x] w fun e w' => e = .returned (.int .i64 (Lib.ctz 16 x)) ∧ w' = w := by
  by_cases hx0 : x = 0
  · subst hx0
    go_enter Tryz.func126, Tryz.ntmps126
    go_wp2_with fail
    go_ret
    exact ⟨rfl, rfl⟩
  · obtain ⟨hlow, hk⟩ := Lib.lowest_bit 16 x hx0 hx
    obtain ⟨hi, htab⟩ := Lib.deBruijn32_at _ (Nat.lt_of_lt_of_le hk (by decide))
    have hcell := hT hx0 _ hi
    rw [htab] at hcell
    have ha : 2 ^ Lib.ctz 16 x < 65536 := by
      have : 2 ^ Lib.ctz 16 x < 2 ^ 16 := Nat.pow_lt_pow_right (by decide) hk
      omega
    obtain ⟨a, haa⟩ : ∃ a, a = 2 ^ Lib.ctz 16 x := ⟨_, rfl⟩
    rw [← haa] at hlow hi hcell ha
    have hkey := tz16_key x a hx hx0 hlow
    have hmod : ((a : Int) % 4294967296 * 125613361 % 4294967296 / 134217728) = ((a * 125613361 % 4294967296 / 134217728 : Nat) : Int) := by clear hkey hlow htab hi hcell haa; omega
    exact tz16_core x _ (a * 125613361 % 4294967296 / 134217728) w (by simp; omega) (by rw [wrap_u16', hkey]; exact hmod) hi (Nat.lt_of_lt_of_le hk (by decide)) hcell
end Go.Proofs.YteojbichibdhjacGreatDoor
