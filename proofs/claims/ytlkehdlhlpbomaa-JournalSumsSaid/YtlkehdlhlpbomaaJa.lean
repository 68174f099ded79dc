/- Layer 9: entries that are valid, in both ways. -/
import Derived.Test.YtlkehdlhlpbomaaProg
import Derived.WalkKit
import Derived.WalkLawsBesides
import Derived.WalkSpells
import Derived.KernelRfl
import Derived.Lib.Hide
namespace Go.Proofs.Ytlkehdlhlpbomaa
set_option linter.unusedSimpArgs false
set_option linter.unusedVariables false
open Go Go.RowKit

/-- A number from least to most. -/
def fromTo (n lo hi : Int) : Bool := decide (lo ≤ n) && decide (n ≤ hi)
theorem isFromTo_any (n lo hi : Int) (w : World) :
    Calls Try.prog 19 #[.int .i64 n, .int .i64 lo, .int .i64 hi] w fun e w' => e = .returned (.bool (fromTo n lo hi)) ∧ w = w' := by
  by_cases h : lo ≤ n
  · go_enter Try.func19, Try.ntmps19
    go_wp2
    go_ret
    exact ⟨by simp [fromTo, h], rfl⟩
  · go_enter Try.func19, Try.ntmps19
    go_wp2
    go_ret
    exact ⟨by simp [fromTo]; omega, rfl⟩
theorem rwithin_any (n lo hi : Int) (w : World) :
    Calls Try.prog 20 #[.int .i64 n, .int .i64 lo, .int .i64 hi] w fun e w' => e = .returned (.bool (fromTo n lo hi)) ∧ w = w' := by
  by_cases h : lo ≤ n
  · go_enter Try.func20, Try.ntmps20
    go_wp2
    go_ret
    exact ⟨by simp [fromTo, h], rfl⟩
  · go_enter Try.func20, Try.ntmps20
    go_wp2
    go_ret
    exact ⟨by simp [fromTo]; omega, rfl⟩
/-- An entry as a value: three cells. -/
def entV (o n : Int) (s : ByteArray) : Value := .agg #[.int .i64 o, .int .i64 n, .string s]
def okE (o n : Int) (s : ByteArray) : Bool := fromTo o 0 7 && fromTo n 0 63 && decide ((s.size : Int) ≤ 2400)
def errE (b : Bool) : Int := if b then 0 else 90
set_option maxRecDepth 100000 in
theorem checkEntry_any (o n : Int) (s : ByteArray) (w : World) :
    Calls Try.prog 7 #[entV o n s] w fun e w' => e = .returned (.int .i64 (errE (okE o n s))) ∧ Below w.heap.size w w' := by
  obtain ⟨b1, h1⟩ : ∃ b, b = fromTo o 0 7 := ⟨_, rfl⟩
  obtain ⟨b2, h2⟩ : ∃ b, b = fromTo n 0 63 := ⟨_, rfl⟩
  have C1 : Hid (∀ w, Calls Try.prog 19 #[.int .i64 o, .int .i64 0, .int .i64 7] w fun e w' => e = .returned (.bool b1) ∧ w = w') := Lib.hid fun w => by rw [h1]; exact isFromTo_any o 0 7 w
  have C2 : Hid (∀ w, Calls Try.prog 19 #[.int .i64 n, .int .i64 0, .int .i64 63] w fun e w' => e = .returned (.bool b2) ∧ w = w') := Lib.hid fun w => by rw [h2]; exact isFromTo_any n 0 63 w
  unfold okE
  rw [← h1, ← h2]
  clear h1 h2
  cases b1 <;> cases b2 <;> by_cases h3 : (s.size : Int) ≤ 2400
  all_goals
    go_enter Try.func7, Try.ntmps7
    simp only [entV]
    go_wp2_with (first | (go_at_call 19; refine (C1.out _).mono ?_; rintro e w' ⟨rfl, rfl⟩; clear C1) | (go_at_call 19; refine (C2.out _).mono ?_; rintro e w' ⟨rfl, rfl⟩; clear C2))
    go_ret
    exact ⟨by simp [errE, h3], (Below.refl _ _).alloc (Nat.le_refl _) _⟩
set_option maxRecDepth 100000 in
theorem rcheckEntry_any (o n : Int) (s : ByteArray) (w : World) :
    Calls Try.prog 8 #[entV o n s] w fun e w' => e = .returned (.int .i64 (errE (okE o n s))) ∧ Below w.heap.size w w' := by
  obtain ⟨b1, h1⟩ : ∃ b, b = fromTo o 0 7 := ⟨_, rfl⟩
  obtain ⟨b2, h2⟩ : ∃ b, b = fromTo n 0 63 := ⟨_, rfl⟩
  have C1 : Hid (∀ w, Calls Try.prog 20 #[.int .i64 o, .int .i64 0, .int .i64 7] w fun e w' => e = .returned (.bool b1) ∧ w = w') := Lib.hid fun w => by rw [h1]; exact rwithin_any o 0 7 w
  have C2 : Hid (∀ w, Calls Try.prog 20 #[.int .i64 n, .int .i64 0, .int .i64 63] w fun e w' => e = .returned (.bool b2) ∧ w = w') := Lib.hid fun w => by rw [h2]; exact rwithin_any n 0 63 w
  unfold okE
  rw [← h1, ← h2]
  clear h1 h2
  cases b1 <;> cases b2 <;> by_cases h3 : (s.size : Int) ≤ 2400
  all_goals
    go_enter Try.func8, Try.ntmps8
    simp only [entV]
    go_wp2_with (first | (go_at_call 20; refine (C1.out _).mono ?_; rintro e w' ⟨rfl, rfl⟩; clear C1) | (go_at_call 20; refine (C2.out _).mono ?_; rintro e w' ⟨rfl, rfl⟩; clear C2))
    go_ret
    exact ⟨by simp [errE, h3], (Below.refl _ _).alloc (Nat.le_refl _) _⟩
end Go.Proofs.Ytlkehdlhlpbomaa
