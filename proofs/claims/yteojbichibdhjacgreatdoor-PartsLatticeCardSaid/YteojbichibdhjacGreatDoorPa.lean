/- Layer 6: lists of numbers in memory; what only reads them. -/
import Derived.Test.YteojbichibdhjacGreatDoorProg
import Derived.WalkKit
import Derived.WalkLawsBesides
import Derived.WalkSpells
import Derived.KernelRfl
import Derived.Lib.Hide
import Derived.WalkMore
import Derived.Deep.Cut
import Derived.Test.YteojbichibdhjacGreatDoorPm
import Derived.Test.YteojbichibdhjacGreatDoorJo
namespace Go.Proofs.YteojbichibdhjacGreatDoor
set_option linter.unusedSimpArgs false
set_option linter.unusedVariables false
open Go Go.RowKit

/-- The cells of a slice of numbers. -/
def IntsAt (w : World) (a : Option Addr) (ls : List Int) : Prop := ls = [] ∨ ∃ b o, a = some ⟨b, o, none⟩ ∧ b < w.heap.size ∧ ∀ (i : Nat) (x : Int), ls[i]? = some x → w.cell? ⟨b, o + i, none⟩ = some (.int .i64 x)
theorem IntsAt.below {w w' : World} {a : Option Addr} {ls : List Int} (h : IntsAt w a ls) (hb : Below w.heap.size w w') : IntsAt w' a ls := by
  rcases h with h | ⟨b, o, rfl, hlt, h⟩
  · exact .inl h
  · exact .inr ⟨b, o, rfl, Nat.lt_of_lt_of_le hlt hb.size, fun i e he => by rw [hb.cell (by exact hlt)]; exact h i e he⟩
theorem IntsAt.at {w : World} {a : Option Addr} {ls : List Int} (h : IntsAt w a ls) {i : Nat} (hi : i < ls.length) : ∃ b o, a = some ⟨b, o, none⟩ ∧ b < w.heap.size ∧ w.cell? ⟨b, o + i, none⟩ = some (.int .i64 ls[i]) := by
  rcases h with rfl | ⟨b, o, rfl, hlt, h⟩
  · simp at hi
  · exact ⟨b, o, rfl, hlt, h i _ (List.getElem?_eq_getElem hi)⟩
def fromTo (n lo hi : Int) : Bool := decide (lo ≤ n) && decide (n ≤ hi)
theorem isFromTo_any (n lo hi : Int) (w : World) :
    Calls Tryz.prog 53 #[.int .i64 n, .int .i64 lo, .int .i64 hi] w fun e w' => e = .returned (.bool (fromTo n lo hi)) ∧ w = w' := by
  by_cases h : lo ≤ n
  · go_enter Tryz.func53, Tryz.ntmps53
    go_wp2
    go_ret
    exact ⟨by simp [fromTo, h], rfl⟩
  · go_enter Tryz.func53, Tryz.ntmps53
    go_wp2
    go_ret
    exact ⟨by simp [fromTo]; omega, rfl⟩
theorem canBe_any (n : Int) (w : World) :
    Calls Tryz.prog 36 #[.int .i64 n] w fun e w' => e = .returned (.bool (fromTo n 1 32)) ∧ w = w' := by
  go_enter Tryz.func36, Tryz.ntmps36
  go_wp2_with (first | (go_at_call 53; refine (isFromTo_any _ _ _ _).mono ?_; rintro e w' ⟨rfl, rfl⟩))
  go_ret
  exact ⟨rfl, rfl⟩
theorem ixF_drop {l : List Int} {x : Int} {k : Nat} (hk : k < l.length) : ixF (l.drop k) x k = if x = l[k] then some k else ixF (l.drop (k + 1)) x (k + 1) := by
  rw [← List.getElem_cons_drop hk]; rfl
set_option maxRecDepth 100000 in
theorem index_any (x : Int) (a : Option Addr) (cap : Nat) (ls : List Int) (w : World) (hl : ls.length ≤ 100000) (hs : IntsAt w a ls) :
    Calls Tryz.prog 24 #[.slice a ls.length cap, .int .i64 x] w fun e w' => e = .returned (.int .i64 (ixI ls x)) ∧ w = w' := by
  have HS := Lib.hid hs
  obtain ⟨n, hn⟩ : ∃ n, n = ls.length := ⟨_, rfl⟩
  rw [← hn] at hl ⊢
  have HN := Lib.hid hn
  clear hs hn
  go_enter Tryz.func24, Tryz.ntmps24
  go_wp2_with fail
  go_loopw [8] (fun ti wr => ∃ k : Nat, k ≤ n ∧ ti = .int .i64 k ∧ Hid (ixF ls x 0 = ixF (ls.drop k) x k) ∧ w = wr) (fun ti _ => n - (intOf ti).toNat)
  case atStart => exact ⟨0, by omega, rfl, by rw [Hid, List.drop_zero], rfl⟩
  case round =>
    obtain ⟨k, hk, rfl, HI, rfl⟩ := hrel
    by_cases hlt : k < n
    · have hkl : k < ls.length := by rw [← HN.out]; exact hlt
      obtain ⟨lb, lo, rfl, hlb, c0⟩ := HS.out.at hkl
      have HD := Lib.hid (ixF_drop (x := x) hkl)
      obtain ⟨y, hy⟩ : ∃ y, y = ls[k] := ⟨_, rfl⟩
      rw [Hid, ← hy] at HD
      rw [← hy] at c0
      clear hy hkl
      by_cases hxy : x = y
      · have HR : Hid (ixI ls x = (k : Int)) := by
          have h1 := HI.out
          rw [HD, if_pos hxy] at h1
          rw [Hid, ixI, h1]
        subst hxy
        clear HD HI
        go_wp2_with fail
        go_ret
        exact ⟨by rw [HR.out]; rfl, rfl⟩
      · have HNX : Hid (ixF ls x 0 = ixF (ls.drop (k + 1)) x (k + 1)) := by
          have h1 := HI.out
          rw [HD, if_neg hxy] at h1
          exact h1
        have t3 : (x == y) = false := by rw [beq_eq_false_iff_ne]; exact hxy
        clear HD HI
        go_wp2_with fail
        exact ⟨⟨k + 1, by omega, by simp, HNX.out, trivial⟩, by simp [intOf]; omega⟩
    · have HR : Hid (ixI ls x = -1) := by
        have h1 := HI.out
        rw [List.drop_of_length_le (by rw [← HN.out]; omega)] at h1
        rw [Hid, ixI, h1]; rfl
      go_wp2_with fail
      go_ret
      exact ⟨by rw [HR.out]; rfl, rfl⟩
theorem foldl_max_step (l : List Int) (a : Int) (k : Nat) (hk : k < l.length) : (l.take (k + 1)).foldl max a = max ((l.take k).foldl max a) l[k] := by
  rw [← List.take_append_getElem hk, List.foldl_append]; rfl
theorem maxL_step (l : List Int) (k : Nat) (h0 : 0 < k) (hk : k < l.length) : maxL (l.take (k + 1)) = max (maxL (l.take k)) l[k] := by
  cases l with
  | nil => simp at hk
  | cons x l =>
    cases k with
    | zero => omega
    | succ k =>
      simp only [List.take_succ_cons, maxL, List.getElem_cons_succ]
      exact foldl_max_step l x k (by simpa using hk)
theorem maxL_one (l : List Int) (h : 0 < l.length) : maxL (l.take 1) = l[0] := by
  cases l with
  | nil => simp at h
  | cons x l => rfl
set_option maxRecDepth 100000 in
theorem max_any (a : Option Addr) (cap : Nat) (ls : List Int) (w : World) (h0 : 0 < ls.length) (hl : ls.length ≤ 100000) (hs : IntsAt w a ls) :
    Calls Tryz.prog 95 #[.slice a ls.length cap] w fun e w' => e = .returned (.int .i64 (maxL ls)) ∧ w = w' := by
  have HS := Lib.hid hs
  obtain ⟨lb, lo, rfl, hlb, d0⟩ := hs.at h0
  rw [Nat.add_zero, ← maxL_one ls h0] at d0
  obtain ⟨g0, hg0⟩ : ∃ g0, g0 = maxL (ls.take 1) := ⟨_, rfl⟩
  rw [← hg0] at d0
  have HG0 := Lib.hid hg0
  obtain ⟨n, hn⟩ : ∃ n, n = ls.length := ⟨_, rfl⟩
  rw [← hn] at hl h0 ⊢
  have HN := Lib.hid hn
  clear hs hn hg0
  go_enter Tryz.func95, Tryz.ntmps95
  go_wp2_with fail
  go_loopw [3, 4] (fun tm ti wr => ∃ k : Nat, 1 ≤ k ∧ k ≤ n ∧ ti = .int .i64 k ∧ tm = .int .i64 (maxL (ls.take k)) ∧ w = wr) (fun _ ti _ => n - (intOf ti).toNat)
  case atStart => exact ⟨1, by omega, by omega, rfl, by rw [HG0.out], rfl⟩
  case round =>
    obtain ⟨k, hk1, hk, rfl, rfl, rfl⟩ := hrel
    obtain ⟨g, hg⟩ : ∃ g, g = maxL (ls.take k) := ⟨_, rfl⟩
    rw [← hg]
    by_cases hlt : k < n
    · have hkl : k < ls.length := by rw [← HN.out]; exact hlt
      have HST : Hid (maxL (ls.take (k + 1)) = max g ls[k]) := by rw [Hid, hg, maxL_step _ _ (by omega) hkl]
      obtain ⟨lb', lo', he, _, c0⟩ := HS.out.at hkl
      simp only [Option.some.injEq, Addr.mk.injEq, and_true] at he
      obtain ⟨rfl, rfl⟩ := he
      obtain ⟨y, hy⟩ : ∃ y, y = ls[k] := ⟨_, rfl⟩
      rw [← hy] at c0 HST
      clear hy hkl hg
      go_wp2_with fail
      exact ⟨⟨k + 1, by omega, by omega, by simp, by rw [HST.out, Int.max_def]; congr 1; split <;> split <;> omega, trivial⟩, by simp [intOf]; omega⟩
    · have HR : Hid (g = maxL ls) := by
        rw [Hid, hg, List.take_of_length_le (by rw [← HN.out]; omega)]
      clear hg
      go_wp2_with fail
      go_ret
      exact ⟨by rw [HR.out]; rfl, rfl⟩
end Go.Proofs.YteojbichibdhjacGreatDoor
