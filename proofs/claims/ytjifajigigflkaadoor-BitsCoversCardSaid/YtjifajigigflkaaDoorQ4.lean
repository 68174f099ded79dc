/- Next, Of, choose, Choose, Unrank, After, Has, Without. -/
import Derived.Test.YtjifajigigflkaaDoorQ3
import Derived.Test.YtjifajigigflkaaDoorShelf
import Derived.Lib.Hide
import Derived.Lib.LaidTab
import Derived.Lib.ItoaNum
import Derived.KernelRfl
import Derived.Test.YtjifajigigflkaaDoorQ1
/- math/bits.TrailingZeros64, and package bits: Next. -/
namespace Go.Proofs.YtjifajigigflkaaDoor
set_option linter.unusedSimpArgs false
set_option linter.unusedVariables false
open Go Go.RowKit

/-! ### What the package-level variables hold -/
structure Gl (w : World) : Prop where
  tz : TabAt 0 Lib.deBruijn64tab w
  size : 6 ≤ w.heap.size
  pow : Lib.TabIs Tryd.prog w "internal/strconv.uint64pow10" .u64 Lib.pow10Tab
  syn : ∃ t p, w.cell? ⟨4, 0, none⟩ = some (.iface t p)
  rng : ∃ t p, w.cell? ⟨5, 0, none⟩ = some (.iface t p)
  ml : ∃ m, w.cell? ⟨2, 0, none⟩ = some (.int .i64 m)
theorem globalPow : Tryd.prog.globalNamed "internal/strconv.uint64pow10" = some 3 := by kernel_rfl
theorem Gl.same {w w' : World} (h : Gl w) (hb : ∀ k, k < 6 → w'.heap[k]? = w.heap[k]?) (hs : w.heap.size ≤ w'.heap.size) : Gl w' where
  tz := fun j hj => by rw [World.cell?_of_block (hb _ (show (0 : Nat) < 6 by omega))]; exact h.tz j hj
  size := Nat.le_trans h.size hs
  pow := by
    have := h.pow
    unfold Lib.TabIs World.var? at *
    simp only [globalPow, Option.bind_some] at *
    rw [hb 3 (by omega)]
    exact this
  syn := by rw [World.cell?_of_block (hb _ (show (4 : Nat) < 6 by omega))]; exact h.syn
  rng := by rw [World.cell?_of_block (hb _ (show (5 : Nat) < 6 by omega))]; exact h.rng
  ml := by rw [World.cell?_of_block (hb _ (show (2 : Nat) < 6 by omega))]; exact h.ml
theorem Gl.below {w w' : World} (h : Gl w) (hb : Below w.heap.size w w') : Gl w' := h.same (fun k hk => hb.block k (Nat.lt_of_lt_of_le hk h.size)) hb.size
theorem Gl.grown {B : Nat} {w w' : World} (h : Gl w) (hB : 6 ≤ B) (hb : Below B w w') : Gl w' := h.same (fun k hk => hb.block k (Nat.lt_of_lt_of_le hk hB)) hb.size

theorem tz64_any (x : Nat) (hx : x < 18446744073709551616) (w : World) (hg : Gl w) :
    Calls Tryd.prog 68 #[.int .u64 x] w fun e w' => e = .returned (.int .i64 (Lib.ctz 64 x)) ∧ w' = w :=
  Any7.bits_TrailingZeros64 Tryd.lxLays7n29 x hx w (fun _ => hg.tz)

/-- The lowest bit of a number. -/
theorem ctz_spec (x : Nat) (h0 : x ≠ 0) (h : x < 2 ^ 64) : Lib.ctz 64 x < 64 ∧ x.testBit (Lib.ctz 64 x) = true ∧ ∀ t, t < Lib.ctz 64 x → x.testBit t = false := by
  obtain ⟨m, hm, hl⟩ := Lib.ctzFrom_spec 64 x (by omega) h
  have e : Lib.ctz 64 x = Lib.ctzFrom 64 x := by unfold Lib.ctz; rw [if_neg h0]
  rw [e]
  generalize Lib.ctzFrom 64 x = c at *
  refine ⟨hl, ?_, fun t ht => ?_⟩
  · rw [hm, Nat.mul_comm, Nat.testBit_mul_two_pow]
    simp
  · rw [hm, Nat.mul_comm, Nat.testBit_mul_two_pow]
    simp; omega

/-! ### The next number of a set -/
def nx (N : Nat) : Nat → Nat → Option Nat
  | 0, _ => none
  | f + 1, k => if N.testBit k then some k else nx N f (k + 1)
theorem nx_some {N : Nat} : ∀ {f k j : Nat}, k ≤ j → j < k + f → N.testBit j = true → (∀ i, k ≤ i → i < j → N.testBit i = false) → nx N f k = some j
  | 0, k, j, h1, h2, _, _ => by omega
  | f + 1, k, j, h1, h2, hj, hall => by
    unfold nx
    by_cases hk : k = j
    · subst hk; rw [if_pos hj]
    · rw [if_neg (by rw [hall k (Nat.le_refl _) (by omega)]; decide)]
      exact nx_some (by omega) (by omega) hj fun i h1 h2 => hall i (by omega) h2
theorem nx_none {N : Nat} : ∀ {f k : Nat}, (∀ i, k ≤ i → i < k + f → N.testBit i = false) → nx N f k = none
  | 0, k, _ => rfl
  | f + 1, k, hall => by
    unfold nx
    rw [if_neg (by rw [hall k (Nat.le_refl _) (by omega)]; decide)]
    exact nx_none fun i h1 h2 => hall i (by omega) (by omega)
theorem of_nx_some {N : Nat} : ∀ {f k j : Nat}, nx N f k = some j → k ≤ j ∧ j < k + f ∧ N.testBit j = true ∧ ∀ i, k ≤ i → i < j → N.testBit i = false
  | 0, k, j, h => by cases h
  | f + 1, k, j, h => by
    unfold nx at h
    split at h
    · rename_i hk; obtain rfl := Option.some.inj h; exact ⟨Nat.le_refl _, by omega, hk, fun i h1 h2 => by omega⟩
    · rename_i hk
      obtain ⟨h1, h2, h3, h4⟩ := of_nx_some h
      refine ⟨by omega, by omega, h3, fun i h5 h6 => ?_⟩
      by_cases hi : i = k
      · subst hi; simpa using hk
      · exact h4 i (by omega) h6
theorem of_nx_none {N : Nat} : ∀ {f k : Nat}, nx N f k = none → ∀ i, k ≤ i → i < k + f → N.testBit i = false
  | 0, k, _, i, h1, h2 => by omega
  | f + 1, k, h, i, h1, h2 => by
    unfold nx at h
    split at h
    · cases h
    · rename_i hk
      by_cases hi : i = k
      · subst hi; simpa using hk
      · exact of_nx_none h i (by omega) (by omega)
/-- The least number of N above n. -/
def nextO (N : Nat) (n : Int) : Option Nat := if 255 ≤ n then none else nx N (256 - (max n (-1) + 1).toNat) (max n (-1) + 1).toNat
/-- What the loop knows of its word: the bits of word i from k on. -/
def Cut (N k i v : Nat) : Prop := v < 18446744073709551616 ∧ (∀ t, t < 64 → v.testBit t = (decide (k ≤ 64 * i + t) && N.testBit (64 * i + t))) ∧ ∀ m, k ≤ m → m < 64 * i → N.testBit m = false
theorem Cut.start (N k : Nat) (hk : k < 256) : Cut N k (k / 64) (word N (k / 64) / 2 ^ (k % 64) * 2 ^ (k % 64)) := by
  refine ⟨Nat.lt_of_le_of_lt (Nat.div_mul_le_self _ _) (word_lt _ _), fun t ht => ?_, fun m h1 h2 => by omega⟩
  rw [Nat.testBit_mul_two_pow, Nat.testBit_div_two_pow, testBit_word]
  by_cases h : k % 64 ≤ t
  · rw [show t - k % 64 + k % 64 = t by omega]
    simp [h, ht, show k ≤ 64 * (k / 64) + t by omega]
  · simp [h, show ¬ k ≤ 64 * (k / 64) + t by omega]
theorem Cut.step {N k i : Nat} (h : Cut N k i 0) (hk : k / 64 ≤ i) : Cut N k (i + 1) (word N (i + 1)) := by
  refine ⟨word_lt _ _, fun t ht => ?_, fun m h1 h2 => ?_⟩
  · rw [testBit_word]; simp [ht, show k ≤ 64 * (i + 1) + t by omega]
  · by_cases hm : m < 64 * i
    · exact h.2.2 m h1 hm
    · have := h.2.1 (m - 64 * i) (by omega)
      rw [show 64 * i + (m - 64 * i) = m by omega] at this
      simpa [h1] using this.symm
theorem Cut.done {N k i v : Nat} (h : Cut N k i v) (hk : k / 64 ≤ i) (hi : i < 4) (hv : v ≠ 0) (hk4 : k < 256) : nx N (256 - k) k = some (64 * i + Lib.ctz 64 v) := by
  obtain ⟨h1, h2, h3⟩ := ctz_spec v hv (by have := h.1; omega)
  have hb := h.2.1 _ h1
  rw [h2] at hb
  have hb : k ≤ 64 * i + Lib.ctz 64 v ∧ N.testBit (64 * i + Lib.ctz 64 v) = true := by simpa using hb.symm
  refine nx_some hb.1 (by omega) hb.2 fun m h4 h5 => ?_
  by_cases hm : m < 64 * i
  · exact h.2.2 m h4 hm
  · have h6 := h.2.1 (m - 64 * i) (by omega)
    rw [h3 _ (by omega), show 64 * i + (m - 64 * i) = m by omega] at h6
    simpa [h4] using h6.symm
theorem Cut.none {N k : Nat} (h : Cut N k 3 0) (hk4 : k < 256) : nx N (256 - k) k = none :=
  nx_none fun m h1 h2 => by
    by_cases hm : m < 64 * 3
    · exact h.2.2 m h1 hm
    · have h6 := h.2.1 (m - 64 * 3) (by omega)
      rw [show 64 * 3 + (m - 64 * 3) = m by omega] at h6
      simpa [h1] using h6.symm
end Go.Proofs.YtjifajigigflkaaDoor
/- Package bits: Next. -/
namespace Go.Proofs.YtjifajigigflkaaDoor
set_option linter.unusedSimpArgs false
set_option linter.unusedVariables false
open Go Go.RowKit

theorem next_beyond (N : Nat) (n : Int) (w : World) (h : 255 ≤ n) :
    Calls Tryd.prog 21 #[setV N, .int .i64 n] w fun e w' => e = .returned (.tuple #[.int .i64 0, .bool false]) ∧ Below w.heap.size w w' := by
  go_enter Tryd.func21, Tryd.ntmps21
  simp only [setV]
  go_wp2
  go_ret2
  exact ⟨rfl, (Below.refl _ _).alloc (Nat.le_refl _) _⟩
set_option maxRecDepth 100000 in
set_option maxHeartbeats 400000 in
theorem next_within (N k : Nat) (n : Int) (w : World) (hg : Gl w) (h : n < 255) (hk : max n (-1) + 1 = (k : Int)) (hk4 : k < 256) :
    Calls Tryd.prog 21 #[setV N, .int .i64 n] w fun e w' => e = .returned (.tuple #[.int .i64 ((nx N (256 - k) k).getD 0 : Nat), .bool (nx N (256 - k) k).isSome]) ∧ Below w.heap.size w w' := by
  have hs := setL_get N (k/64) (by omega)
  have k0 : IntKind.i64.wrap (max n (-1) + 1) = (k : Int) := by rw [hk]; exact IntWalk.i64_in _ (by omega)
  have hdv : decide (255 ≤ n) = false := by simp; omega
  obtain ⟨v, hv⟩ : ∃ v, v = word N (k / 64) / 2 ^ (k % 64) * 2 ^ (k % 64) := ⟨_, rfl⟩
  have hC := Cut.start N k hk4
  rw [← hv] at hC
  have k1 : IntKind.u64.wrap ((word N (k / 64) : Int) / 2 ^ (k % 64) * 2 ^ (k % 64)) = (v : Int) := by
    have e : ((word N (k / 64) : Int) / 2 ^ (k % 64) * 2 ^ (k % 64)) = ((word N (k / 64) / 2 ^ (k % 64) * 2 ^ (k % 64) : Nat) : Int) := by
      rw [Int.natCast_mul, Int.natCast_ediv]; simp
    rw [e, ← hv]
    have := hC.1
    exact IntWalk.u64_in _ (by omega)
  have HK := Lib.hid hk
  have HC := Lib.hid hC
  have K1 := Lib.hid k1
  clear hk hv hC k1
  go_enter Tryd.func21, Tryd.ntmps21
  simp only [setV]
  go_wp2
  obtain ⟨W, hW⟩ : ∃ W, W = w.alloc (.cells #[.int .u64 ↑(word N 0), .int .u64 ↑(word N 1), .int .u64 ↑(word N 2), .int .u64 ↑(word N 3)] 25) := ⟨_, rfl⟩
  rw [← hW]
  have hb : Below w.heap.size w W := by rw [hW]; exact (Below.refl _ w).alloc (Nat.le_refl _) _
  have HG := Lib.hid (hg.below hb)
  have HB := Lib.hid hb
  have HN : Hid (∀ j, j < 4 → W.cell? ⟨w.heap.size, j, none⟩ = some (.int .u64 (word N j))) := fun j hj => by
    have := setL_get N j hj
    rw [hW]; simp [go_sem, this]
  clear hW hb hs k0
  go_loop [7, 8] (fun si sv => ∃ i v : Nat, k / 64 ≤ i ∧ i < 4 ∧ si = .int .i64 i ∧ sv = .int .u64 v ∧ Cut N k i v) (fun si _ => (4 - intOf si).toNat)
  case atStart => exact ⟨k / 64, v, Nat.le_refl _, by omega, by simp, by rw [K1.out], HC.out⟩
  case round =>
    obtain ⟨i, v, hi0, hi, rfl, rfl, hC⟩ := hrel
    have hvl := hC.1
    have HC := Lib.hid hC
    clear hC
    by_cases hv : v = 0
    · subst hv
      by_cases hi3 : i = 3
      · subst hi3
        have HR := Lib.hid (Cut.none HC.out hk4)
        go_wp2
        go_ret2
        exact ⟨by rw [HR.out]; rfl, HB.out⟩
      · have hcell := HN.out (i + 1) (by omega)
        have ht : ((i : Int) + 1 == 4) = false := by simp; omega
        go_wp2
        refine ⟨⟨i + 1, word N (i + 1), by omega, by omega, rfl, rfl, HC.out.step hi0⟩, by simp [intOf]; omega⟩
    · have HR := Lib.hid (Cut.done HC.out hi0 hi hv hk4)
      have hl := (ctz_spec v hv (by omega)).1
      have ht : ((v : Int) == 0) = false := by simp; omega
      go_wp2_with (first | (go_at_call 68; refine (tz64_any _ hvl _ HG.out).mono ?_; rintro e w' ⟨rfl, rfl⟩))
      go_ret2
      refine ⟨?_, HB.out⟩
      rw [HR.out]
      simp; omega
theorem next_any (N : Nat) (n : Int) (w : World) (hg : Gl w) :
    Calls Tryd.prog 21 #[setV N, .int .i64 n] w fun e w' => e = .returned (.tuple #[.int .i64 ((nextO N n).getD 0 : Nat), .bool (nextO N n).isSome]) ∧ Below w.heap.size w w' := by
  unfold nextO
  by_cases h : 255 ≤ n
  · rw [if_pos h]; exact next_beyond N n w h
  · rw [if_neg h]
    have hk : max n (-1) + 1 = ((max n (-1) + 1).toNat : Int) := by omega
    exact next_within N _ n w hg (by omega) hk (by omega)
theorem next_some {N j : Nat} {n : Int} (h : nextO N n = some j) (w : World) (hg : Gl w) :
    Calls Tryd.prog 21 #[setV N, .int .i64 n] w fun e w' => e = .returned (.tuple #[.int .i64 j, .bool true]) ∧ Below w.heap.size w w' := by
  have := next_any N n w hg
  rw [h] at this
  exact this
theorem next_none {N : Nat} {n : Int} (h : nextO N n = none) (w : World) (hg : Gl w) :
    Calls Tryd.prog 21 #[setV N, .int .i64 n] w fun e w' => e = .returned (.tuple #[.int .i64 0, .bool false]) ∧ Below w.heap.size w w' := by
  have := next_any N n w hg
  rw [h] at this
  exact this
theorem of_next_some {N j : Nat} {n : Int} (h : nextO N n = some j) : n < j ∧ j < 256 ∧ N.testBit j = true ∧ ∀ i : Nat, n < i → i < j → N.testBit i = false := by
  unfold nextO at h
  split at h
  · cases h
  · obtain ⟨h1, h2, h3, h4⟩ := of_nx_some h
    exact ⟨by omega, by omega, h3, fun i h5 h6 => h4 i (by omega) h6⟩
theorem of_next_none {N : Nat} {n : Int} (h : nextO N n = none) : ∀ i : Nat, n < i → i < 256 → N.testBit i = false := by
  unfold nextO at h
  split at h
  · intro i h1 h2; omega
  · intro i h1 h2; exact of_nx_none h i (by omega) (by omega)
theorem next_eq_some {N j : Nat} {n : Int} (h1 : n < j) (h2 : j < 256) (h3 : N.testBit j = true) (h4 : ∀ i : Nat, n < i → i < j → N.testBit i = false) : nextO N n = some j := by
  unfold nextO
  rw [if_neg (by omega)]
  exact nx_some (by omega) (by omega) h3 fun i h5 h6 => h4 i (by omega) h6
theorem next_eq_none {N : Nat} {n : Int} (h : ∀ i : Nat, n < i → i < 256 → N.testBit i = false) : nextO N n = none := by
  unfold nextO
  split
  · rfl
  · exact nx_none fun i h5 h6 => h i (by omega) (by omega)
end Go.Proofs.YtjifajigigflkaaDoor
/- Package bits: Of. -/
namespace Go.Proofs.YtjifajigigflkaaDoor
set_option linter.unusedSimpArgs false
set_option linter.unusedVariables false
open Go Go.RowKit

/-- The set N with these numbers; nothing if one of them is not from 0 to 255. -/
def ofL : List Int → Nat → Option Nat
  | [], N => some N
  | x :: xs, N => if 0 ≤ x ∧ x ≤ 255 then ofL xs (N ||| 2 ^ x.toNat) else none
def ofV : Option Nat → Value
  | some N => .tuple #[setV N, .int .i64 0]
  | none => .tuple #[setV 0, .int .i64 1]

set_option maxRecDepth 100000 in
set_option maxHeartbeats 400000 in
theorem of_any (a : Option Addr) (cap : Nat) (xs : List Int) (w : World) (hx : Cells w a (xs.map (Value.int .i64))) (hl : xs.length ≤ 9223372036854775807) :
    Calls Tryd.prog 17 #[.slice a xs.length cap] w fun e w' => e = .returned (ofV (ofL xs 0)) ∧ Below w.heap.size w w' := by
  go_enter Tryd.func17, Tryd.ntmps17
  go_wp2
  go_loopw [10] (fun i wr => ∃ k N : Nat, k ≤ xs.length ∧ i = .int .i64 k ∧ ofL xs 0 = ofL (xs.drop k) N ∧ Blk wr (w.heap.size + 1) (setA N) 25 ∧ Blk wr w.heap.size (setA 0) 25 ∧ Below w.heap.size w wr) (fun i _ => xs.length - (intOf i).toNat)
  case atStart =>
    refine ⟨0, 0, by omega, rfl, by simp, ?_, ?_, ?_⟩
    · rw [setA_zero]; simpa using Blk.new (w.alloc (.cells #[.int .u64 0, .int .u64 0, .int .u64 0, .int .u64 0] 25)) #[.int .u64 0, .int .u64 0, .int .u64 0, .int .u64 0] 25
    · rw [setA_zero]; exact (Blk.new _ _ _).alloc _
    · exact ((Below.refl _ w).alloc (Nat.le_refl _) _).alloc (by simp) _
  case round =>
    obtain ⟨k, N, hk, rfl, hof, hB1, hB0, hbel⟩ := hrel
    have Hof := Lib.hid hof
    clear hof
    have HB1 := Lib.hid hB1
    have HB0 := Lib.hid hB0
    obtain ⟨c0, c1, c2, c3, f0⟩ := hB1.set4
    by_cases hlt : k < xs.length
    · obtain ⟨b, o, rfl, hbl, hcell⟩ := (hx.below hbel).at (i := k) (by simpa using hlt)
      rw [List.getElem_map] at hcell
      have hdrop : xs.drop k = xs[k] :: xs.drop (k + 1) := (List.getElem_cons_drop hlt).symm
      have HX := Lib.hid hx
      have HBE := Lib.hid hbel
      clear hx hbel hB1 hB0
      obtain ⟨x, hxk⟩ : ∃ x, x = xs[k] := ⟨_, rfl⟩
      rw [← hxk] at hcell hdrop
      by_cases hin : 0 ≤ x ∧ x ≤ 255
      · obtain ⟨m, rfl⟩ := Int.eq_ofNat_of_zero_le hin.1
        have hm : m < 256 := by omega
        have HOF : Hid (ofL xs 0 = ofL (xs.drop (k + 1)) (N ||| 2 ^ m)) := by rw [Hid, Hof.out, hdrop, ofL, if_pos (by omega), Int.toNat_natCast]
        clear hxk hdrop Hof
        go_wp2_with (first | (go_at_call 19; refine (with_in N m _ hm).mono ?_; rintro e w2 ⟨rfl, hb⟩; simp only [setV]; obtain ⟨d0, d1, d2, d3, g0⟩ := (HB1.out.below hb HB1.out.lt).set4))
        have hb' := HBE.out.trans (hb.mono HBE.out.size)
        refine ⟨⟨k + 1, N ||| 2 ^ m, by omega, rfl, HOF.out, ?_, ?_, ?_⟩, by simp [intOf]; omega⟩
        · exact (HB1.out.below hb HB1.out.lt).put4 rfl _ _ _ _
        · exact (HB0.out.below hb HB0.out.lt).other4 (by omega) _ _ _ _
        · exact below_put4 hb' (by omega) _ _ _ _
      · have HOF : Hid (ofL xs 0 = none) := by rw [Hid, Hof.out, hdrop, ofL, if_neg hin]
        have hout : x < 0 ∨ 255 < x := by omega
        clear hxk hdrop Hof
        go_wp2_with (first | (go_at_call 19; refine (with_out N x _ hout).mono ?_; rintro e w2 ⟨rfl, hb⟩; simp only [setV]; obtain ⟨d0, d1, d2, d3, g0⟩ := (HB1.out.below hb HB1.out.lt).set4; obtain ⟨e0, e1, e2, e3, h0⟩ := (HB0.out.below hb HB0.out.lt).set4))
        refine named (fun W => Blk W w.heap.size (setA 0) 25 ∧ Below w.heap.size w W) ⟨by rw [setA_zero]; exact ((HB0.out.below hb HB0.out.lt).other4 (b' := w.heap.size + 1) (by omega) _ _ _ _).put4 (by rfl) _ _ _ _, below_put4 (below_put4 (HBE.out.trans (hb.mono HBE.out.size)) (by omega) _ _ _ _) (Nat.le_refl _) _ _ _ _⟩ ?_
        rintro W ⟨hB, hbW⟩
        obtain ⟨q0, q1, q2, q3, _⟩ := hB.set4
        exact bodyPost_ret (v := .tuple #[setV 0, .int .i64 1]) (by simp [results, Tryd.results17, go_sem, q0, q1, q2, q3, setV]) rfl ⟨by rw [HOF.out]; rfl, hbW⟩
    · have HOF : Hid (ofL xs 0 = some N) := by rw [Hid, Hof.out, List.drop_of_length_le (by omega), ofL]
      clear Hof hx
      obtain ⟨e0, e1, e2, e3, h0⟩ := HB0.out.set4
      go_wp2
      refine named (fun W => Blk W w.heap.size (setA N) 25 ∧ Below w.heap.size w W) ⟨HB0.out.put4 (by rfl) _ _ _ _, below_put4 hbel (Nat.le_refl _) _ _ _ _⟩ ?_
      rintro W ⟨hB, hbW⟩
      obtain ⟨q0, q1, q2, q3, _⟩ := hB.set4
      exact bodyPost_ret (v := .tuple #[setV N, .int .i64 0]) (by simp [results, Tryd.results17, go_sem, q0, q1, q2, q3, setV]) rfl ⟨by rw [HOF.out]; rfl, hbW⟩
end Go.Proofs.YtjifajigigflkaaDoor
/- Pascal's triangle up to 63 rows, and runs of bits: plain mathematics, no Go. -/
namespace Go.Proofs.YtjifajigigflkaaDoor
set_option linter.unusedSimpArgs false
set_option linter.unusedVariables false

/-- How many subsets of k of n numbers there are (n at most 63): one factor after the other. -/
def ch (n : Nat) : Nat → Nat
  | 0 => 1
  | k + 1 => ch n k * (n - k) / (k + 1)
theorem ch_zero (n : Nat) : ch n 0 = 1 := rfl
theorem ch_succ (n k : Nat) : ch n (k + 1) = ch n k * (n - k) / (k + 1) := rfl
theorem ch_above (n : Nat) : ∀ {k : Nat}, n < k → ch n k = 0
  | 0, h => by omega
  | k + 1, h => by
    rw [ch_succ]
    by_cases hk : n < k
    · rw [ch_above n hk]; simp
    · rw [show n - k = 0 by omega]; simp
/-- A table of all rows up to 63. -/
def chTab : Bool := (List.range 63).all fun n => (List.range 65).all fun k => ch (n + 1) (k + 1) == ch n k + ch n (k + 1) && decide (ch n k * (n - k) < 18446744073709551616) && (decide (n < k) || decide (0 < ch n k)) && decide (ch n k ≤ ch n (n - k) ∨ n < k)
theorem chTab_ok : chTab = true := by decide +kernel
theorem ch_tab {n k : Nat} (hn : n ≤ 62) (hk : k ≤ 64) : ch (n + 1) (k + 1) = ch n k + ch n (k + 1) ∧ ch n k * (n - k) < 18446744073709551616 ∧ (n < k ∨ 0 < ch n k) ∧ (ch n k ≤ ch n (n - k) ∨ n < k) := by
  have h := chTab_ok
  unfold chTab at h
  rw [List.all_eq_true] at h
  have h1 := h n (List.mem_range.2 (by omega))
  rw [List.all_eq_true] at h1
  have h2 := h1 k (List.mem_range.2 (by omega))
  simp only [Bool.and_eq_true, beq_iff_eq, decide_eq_true_eq, Bool.or_eq_true] at h2
  exact ⟨h2.1.1.1, h2.1.1.2, h2.1.2, h2.2⟩
theorem ch_pascal {n k : Nat} (hn : n ≤ 62) : ch (n + 1) (k + 1) = ch n k + ch n (k + 1) := by
  by_cases hk : k ≤ 64
  · exact (ch_tab hn hk).1
  · rw [ch_above _ (show n + 1 < k + 1 by omega), ch_above _ (show n < k by omega), ch_above _ (show n < k + 1 by omega)]
theorem ch_fit {n k : Nat} (hn : n ≤ 62) : ch n k * (n - k) < 18446744073709551616 := by
  by_cases hk : k ≤ 64
  · exact (ch_tab hn hk).2.1
  · rw [show n - k = 0 by omega]; simp
theorem ch_pos {n k : Nat} (hn : n ≤ 62) (hk : k ≤ n) : 0 < ch n k := by
  rcases (ch_tab hn (show k ≤ 64 by omega)).2.2.1 with h | h <;> omega
theorem ch_lt {n : Nat} : ∀ {k : Nat}, n ≤ 62 → ch n k < 9223372036854775808
  | k, hn => by
    by_cases hk : k ≤ 62
    · have : (List.range 63).all (fun n => (List.range 63).all fun k => decide (ch n k < 9223372036854775808)) = true := by decide +kernel
      rw [List.all_eq_true] at this
      have h1 := this n (List.mem_range.2 (by omega))
      rw [List.all_eq_true] at h1
      exact of_decide_eq_true (h1 k (List.mem_range.2 (by omega)))
    · rw [ch_above _ (show n < k by omega)]; decide
/-- Choose for any integers k. -/
def chI (n : Nat) (k : Int) : Nat := if k < 0 then 0 else ch n k.toNat
theorem chI_nat (n k : Nat) : chI n (k : Int) = ch n k := by unfold chI; rw [if_neg (by omega)]; simp
theorem chI_lt {n : Nat} {k : Int} (hn : n ≤ 62) : chI n k < 9223372036854775808 := by
  unfold chI; split
  · decide
  · exact ch_lt hn

/-! ### Runs of bits -/
/-- N without the numbers a, .., a + c - 1. -/
def clr (N a : Nat) : Nat → Nat
  | 0 => N
  | c + 1 => diff (clr N a c) (2 ^ (a + c))
/-- N with the numbers a, .., a + c - 1. -/
def ins (N a : Nat) : Nat → Nat
  | 0 => N
  | c + 1 => ins N a c ||| 2 ^ (a + c)
theorem testBit_clr (N a : Nat) : ∀ c i, (clr N a c).testBit i = (N.testBit i && !(decide (a ≤ i) && decide (i < a + c)))
  | 0, i => by
    simp only [clr]
    rw [show decide (i < a + 0) = !decide (a ≤ i) by rw [Bool.eq_iff_iff]; simp]
    cases decide (a ≤ i) <;> simp
  | c + 1, i => by
    simp only [clr]
    rw [testBit_diff, testBit_clr N a c, Nat.testBit_two_pow, Bool.eq_iff_iff]
    simp only [Bool.and_eq_true, Bool.not_eq_true', Bool.and_eq_false_iff, decide_eq_true_eq, decide_eq_false_iff_not]
    constructor
    · rintro ⟨⟨h1, h2⟩, h3⟩; exact ⟨h1, by omega⟩
    · rintro ⟨h1, h2⟩; exact ⟨⟨h1, by omega⟩, by omega⟩
theorem testBit_ins (N a : Nat) : ∀ c i, (ins N a c).testBit i = (N.testBit i || (decide (a ≤ i) && decide (i < a + c)))
  | 0, i => by
    simp only [ins]
    rw [show decide (i < a + 0) = !decide (a ≤ i) by rw [Bool.eq_iff_iff]; simp]
    cases decide (a ≤ i) <;> simp
  | c + 1, i => by
    simp only [ins]
    rw [Nat.testBit_or, testBit_ins N a c, Nat.testBit_two_pow, Bool.eq_iff_iff]
    simp only [Bool.and_eq_true, Bool.or_eq_true, decide_eq_true_eq]
    constructor
    · rintro ((h1 | h2) | h3)
      · exact .inl h1
      · exact .inr (by omega)
      · exact .inr (by omega)
    · rintro (h1 | h2)
      · exact .inl (.inl h1)
      · by_cases h : a + c = i
        · exact .inr h
        · exact .inl (.inr (by omega))
theorem or_lt {N M : Nat} (hN : N < 2 ^ 256) (hM : M < 2 ^ 256) : N ||| M < 2 ^ 256 := Nat.or_lt_two_pow hN hM
theorem pow_lt256 {m : Nat} (h : m < 256) : 2 ^ m < 2 ^ 256 := Nat.pow_lt_pow_right (by decide) h
theorem clr_lt {N a : Nat} (hN : N < 2 ^ 256) : ∀ c, clr N a c < 2 ^ 256
  | 0 => hN
  | c + 1 => diff_lt (clr_lt hN c)
theorem ins_lt {N a : Nat} (hN : N < 2 ^ 256) : ∀ c, a + c ≤ 256 → ins N a c < 2 ^ 256
  | 0, _ => hN
  | c + 1, h => or_lt (ins_lt hN c (by omega)) (pow_lt256 (by omega))
end Go.Proofs.YtjifajigigflkaaDoor
/- Package bits: choose, Choose. -/
namespace Go.Proofs.YtjifajigigflkaaDoor
set_option linter.unusedSimpArgs false
set_option linter.unusedVariables false
open Go Go.RowKit

theorem choose_out (n : Nat) (k : Int) (w : World) (hn : n ≤ 62) (h : k < 0 ∨ (n : Int) < k) :
    Calls Tryd.prog 72 #[.int .i64 n, .int .i64 k] w fun e w' => e = .returned (.int .i64 0) ∧ w = w' := by
  rcases h with h | h
  · go_enter Tryd.func72, Tryd.ntmps72
    go_wp2
    go_ret
    exact ⟨rfl, rfl⟩
  · have h0 : decide (k < 0) = false := decide_eq_false (by omega)
    go_enter Tryd.func72, Tryd.ntmps72
    go_wp2
    go_ret
    exact ⟨rfl, rfl⟩
theorem choose_in (n k : Nat) (w : World) (hn : n ≤ 62) (h : k ≤ n) :
    Calls Tryd.prog 72 #[.int .i64 n, .int .i64 k] w fun e w' => e = .returned (.int .i64 (ch n k)) ∧ w = w' := by
  have h0 : decide ((k : Int) < 0) = false := decide_eq_false (by omega)
  have h1 : decide (n < k) = false := decide_eq_false (by omega)
  have HK := Lib.hid (ch_lt (k := k) hn)
  go_enter Tryd.func72, Tryd.ntmps72
  go_wp2
  go_loop [5, 15] (fun c i => ∃ j : Nat, j ≤ k ∧ i = .int .i64 j ∧ c = .int .u64 (ch n j)) (fun _ i => k - (intOf i).toNat)
  case atStart => exact ⟨0, by omega, rfl, rfl⟩
  case round =>
    obtain ⟨j, hj, rfl, rfl⟩ := hrel
    by_cases hlt : j < k
    · have hf := Lib.hid (ch_fit (k := j) hn)
      have e1 : ((n : Int) - j) = ((n - j : Nat) : Int) := by omega
      have e2 : IntKind.u64.wrap (((n - j : Nat) : Int)) = ((n - j : Nat) : Int) := IntWalk.u64_in _ (by omega)
      have e3 : IntKind.u64.wrap ((ch n j : Int) * ((n - j : Nat) : Int)) = ((ch n j * (n - j) : Nat) : Int) := by
        rw [← Int.natCast_mul]; have := hf.out; exact IntWalk.u64_in _ (by omega)
      go_wp2
      refine ⟨⟨j + 1, by omega, rfl, ?_⟩, by simp [intOf] <;> omega⟩
      have e4 : ((ch n j : Int) * ((n - j : Nat) : Int)).tdiv ((j : Int) + 1) = (ch n (j + 1) : Int) := by
        rw [← Int.natCast_mul, Int.tdiv_eq_ediv_of_nonneg (by omega), show ((j : Int) + 1) = ((j + 1 : Nat) : Int) by omega, ← Int.natCast_ediv, ch_succ]
      rw [e4, IntWalk.u64_in _ (by have := ch_lt (n := n) (k := j + 1) hn; omega)]
    · obtain rfl : j = k := by omega
      go_wp2
      go_ret
      exact ⟨by rw [IntWalk.wrap64_in _ (by have := HK.out; omega)]; rfl, rfl⟩
theorem choose_any (n : Nat) (k : Int) (w : World) (hn : n ≤ 62) :
    Calls Tryd.prog 72 #[.int .i64 n, .int .i64 k] w fun e w' => e = .returned (.int .i64 (chI n k)) ∧ w = w' := by
  by_cases h : k < 0 ∨ (n : Int) < k
  · have := choose_out n k w hn h
    have e : chI n k = 0 := by
      unfold chI; split
      · rfl
      · exact ch_above _ (by omega)
    rw [e]; exact this
  · obtain ⟨m, rfl⟩ := Int.eq_ofNat_of_zero_le (show 0 ≤ k by omega)
    rw [chI_nat]
    exact choose_in n m w hn (by omega)
theorem Choose_out (n k : Int) (w : World) (h : n < 0 ∨ 62 < n) :
    Calls Tryd.prog 45 #[.int .i64 n, .int .i64 k] w fun e w' => e = .returned (.tuple #[.int .i64 0, .int .i64 1]) ∧ w = w' := by
  rcases h with h | h
  · go_enter Tryd.func45, Tryd.ntmps45
    go_wp2
    go_ret2
    exact ⟨rfl, rfl⟩
  · have h0 : decide (n < 0) = false := decide_eq_false (by omega)
    go_enter Tryd.func45, Tryd.ntmps45
    go_wp2
    go_ret2
    exact ⟨rfl, rfl⟩
theorem Choose_in (n : Nat) (k : Int) (w : World) (hn : n ≤ 62) :
    Calls Tryd.prog 45 #[.int .i64 n, .int .i64 k] w fun e w' => e = .returned (.tuple #[.int .i64 (chI n k), .int .i64 0]) ∧ w = w' := by
  have h0 : decide ((n : Int) < 0) = false := decide_eq_false (by omega)
  go_enter Tryd.func45, Tryd.ntmps45
  go_wp2_with (first | (go_at_call 72; refine (choose_any _ _ _ hn).mono ?_; rintro e w' ⟨rfl, rfl⟩))
  go_ret2
  exact ⟨rfl, rfl⟩

/-! ### Unrank -/
/-- From the number m - 1 on downward, k numbers are still to be taken, p places are left. -/
def unr : Nat → Nat → Nat → Nat → Nat
  | 0, _, _, N => N
  | m + 1, k, p, N => if k = 0 then N else if ch m k ≤ p then unr m (k - 1) (p - ch m k) (N ||| 2 ^ m) else unr m k p N
theorem unr_none : ∀ m p N, unr m 0 p N = N
  | 0, _, _ => rfl
  | m + 1, _, _ => by simp [unr]
set_option maxRecDepth 100000 in
theorem unrank_out (k place : Int) (w : World) (h : place < 0 ∨ (chI 62 k : Int) ≤ place) :
    Calls Tryd.prog 49 #[.int .i64 k, .int .i64 place] w fun e w' => e = .returned (.tuple #[setV 0, .int .i64 1]) ∧ Below w.heap.size w w' := by
  have hch : ∀ w, Calls Tryd.prog 72 #[.int .i64 62, .int .i64 k] w fun e w' => e = .returned (.int .i64 (chI 62 k)) ∧ w = w' := fun w => choose_any 62 k w (by decide)
  rcases h with h | h
  · go_enter Tryd.func49, Tryd.ntmps49
    go_wp2
    refine named (fun W => Blk W w.heap.size (setA 0) 25 ∧ Below w.heap.size w W) ⟨Blk.newS _ _, (Below.refl _ _).alloc (Nat.le_refl _) _⟩ ?_
    rintro W ⟨hB, hbW⟩
    obtain ⟨q0, q1, q2, q3, _⟩ := hB.set4
    exact bodyPost_ret (v := .tuple #[setV 0, .int .i64 1]) (by simp [results, Tryd.results49, go_sem, q0, q1, q2, q3, setV]) rfl ⟨rfl, hbW⟩
  · have h0 : decide (place < 0) = false := decide_eq_false (by omega)
    go_enter Tryd.func49, Tryd.ntmps49
    go_wp2_with (first | (go_at_call 72; refine (hch _).mono ?_; rintro e w' ⟨rfl, rfl⟩))
    refine named (fun W => Blk W w.heap.size (setA 0) 25 ∧ Below w.heap.size w W) ⟨Blk.newS _ _, (Below.refl _ _).alloc (Nat.le_refl _) _⟩ ?_
    rintro W ⟨hB, hbW⟩
    obtain ⟨q0, q1, q2, q3, _⟩ := hB.set4
    exact bodyPost_ret (v := .tuple #[setV 0, .int .i64 1]) (by simp [results, Tryd.results49, go_sem, q0, q1, q2, q3, setV]) rfl ⟨rfl, hbW⟩
set_option maxRecDepth 100000 in
set_option maxHeartbeats 400000 in
theorem unrank_in (k p : Nat) (w : World) (hk : k ≤ 62) (hp : p < ch 62 k) :
    Calls Tryd.prog 49 #[.int .i64 k, .int .i64 p] w fun e w' => e = .returned (.tuple #[setV (unr 62 k p 0), .int .i64 0]) ∧ Below w.heap.size w w' := by
  have hch : ∀ w, Calls Tryd.prog 72 #[.int .i64 62, .int .i64 k] w fun e w' => e = .returned (.int .i64 (ch 62 k)) ∧ w = w' := fun w => by
    have := choose_any 62 k w (by decide)
    rwa [chI_nat] at this
  have h0 : decide ((p : Int) < 0) = false := decide_eq_false (by omega)
  have h1 : decide (ch 62 k ≤ p) = false := decide_eq_false (by omega)
  have HP := Lib.hid hp
  have HL := Lib.hid (ch_lt (n := 62) (k := k) (by decide))
  go_enter Tryd.func49, Tryd.ntmps49
  go_wp2_with (first | (go_at_call 72; refine (hch _).mono ?_; rintro e w' ⟨rfl, rfl⟩))
  go_loopw [0, 1, 7] (fun tk tp tn wr => ∃ m k1 p1 N : Nat, m ≤ 62 ∧ k1 ≤ 62 ∧ tk = .int .i64 k1 ∧ tp = .int .i64 p1 ∧ tn = .int .i64 ((m : Int) - 1) ∧ p1 < ch m k1 ∧ unr 62 k p 0 = unr m k1 p1 N ∧ Blk wr (w.heap.size + 1) (setA N) 25 ∧ Blk wr w.heap.size (setA 0) 25 ∧ Below w.heap.size w wr) (fun _ _ tn _ => (intOf tn + 1).toNat)
  case atStart =>
    refine ⟨62, k, p, 0, by omega, hk, rfl, rfl, rfl, HP.out, rfl, ?_, ?_, ?_⟩
    · simpa using Blk.newS (w.alloc (.cells #[.int .u64 0, .int .u64 0, .int .u64 0, .int .u64 0] 25)) 25
    · exact (Blk.newS _ _).alloc _
    · exact ((Below.refl _ w).alloc (Nat.le_refl _) _).alloc (by simp) _
  case round =>
    obtain ⟨m, k1, p1, N, hm, hk1, rfl, rfl, rfl, hp1, hu, hB1, hB0, hbel⟩ := hrel
    have HU := Lib.hid hu
    have HP1 := Lib.hid hp1
    have HB1 := Lib.hid hB1
    have HB0 := Lib.hid hB0
    have HBE := Lib.hid hbel
    obtain ⟨c0, c1, c2, c3, f0⟩ := hB1.set4
    clear hu hp1 hbel hB1 hch h1 h0
    by_cases hk0 : k1 = 0
    · subst hk0
      obtain ⟨e0, e1, e2, e3, h0⟩ := hB0.set4
      clear hB0
      go_wp2
      refine named (fun W => Blk W w.heap.size (setA N) 25 ∧ Below w.heap.size w W) ⟨HB0.out.put4 (by rfl) _ _ _ _, below_put4 HBE.out (Nat.le_refl _) _ _ _ _⟩ ?_
      rintro W ⟨hB, hbW⟩
      obtain ⟨q0, q1, q2, q3, _⟩ := hB.set4
      exact bodyPost_ret (v := .tuple #[setV N, .int .i64 0]) (by simp [results, Tryd.results49, go_sem, q0, q1, q2, q3, setV]) rfl ⟨by rw [HU.out, unr_none], hbW⟩
    · clear hB0
      obtain ⟨q, rfl⟩ : ∃ q, m = q + 1 := by
        cases m with
        | zero => exact absurd HP1.out (by rw [ch_above _ (show 0 < k1 by omega)]; omega)
        | succ q => exact ⟨q, rfl⟩
      have hq : ((q + 1 : Nat) : Int) - 1 = (q : Int) := by omega
      rw [hq]
      have hch2 : ∀ w, Calls Tryd.prog 72 #[.int .i64 q, .int .i64 k1] w fun e w' => e = .returned (.int .i64 (ch q k1)) ∧ w = w' := fun w => by
        have := choose_any q k1 w (by omega)
        rwa [chI_nat] at this
      have HQ := Lib.hid (ch_lt (n := q + 1) (k := k1) (by omega))
      have HQ2 := Lib.hid (ch_lt (n := q) (k := k1) (by omega))
      obtain ⟨r, rfl⟩ : ∃ r, k1 = r + 1 := ⟨k1 - 1, by omega⟩
      have HPA := Lib.hid (ch_pascal (n := q) (k := r) (by omega))
      by_cases hle : ch q (r + 1) ≤ p1
      · have hwith := fun w => with_in N q w (show q < 256 by omega)
        have hp1l : p1 < 9223372036854775808 := by have := HP1.out; have := HQ.out; omega
        have hd : ((p1 : Int) - (ch q (r + 1) : Int)) = ((p1 - ch q (r + 1) : Nat) : Int) := by omega
        have hr : (((r + 1 : Nat) : Int) - 1) = (r : Int) := by omega
        go_wp2_with (first | (go_at_call 72; refine (hch2 _).mono ?_; rintro e w' ⟨rfl, rfl⟩) | (go_at_call 19; refine (hwith _).mono ?_; rintro e w2 ⟨rfl, hb⟩; simp only [setV]; obtain ⟨d0, d1, d2, d3, g0⟩ := (HB1.out.below hb HB1.out.lt).set4))
        have hun : unr (q + 1) (r + 1) p1 N = unr q r (p1 - ch q (r + 1)) (N ||| 2 ^ q) := by rw [unr, if_neg (by omega), if_pos hle]; rfl
        refine ⟨⟨q, r, p1 - ch q (r + 1), N ||| 2 ^ q, by omega, by omega, rfl, rfl, rfl, by have := HPA.out; have := HP1.out; omega, by rw [HU.out, hun], (HB1.out.below hb HB1.out.lt).putS _, (HB0.out.below hb HB0.out.lt).other4 (by omega) _ _ _ _, below_put4 (HBE.out.trans (hb.mono HBE.out.size)) (by omega) _ _ _ _⟩, by simp [intOf] <;> omega⟩
      · have h5 : decide (ch q (r + 1) ≤ p1) = false := decide_eq_false (by omega)
        go_wp2_with (first | (go_at_call 72; refine (hch2 _).mono ?_; rintro e w' ⟨rfl, rfl⟩))
        have hun : unr (q + 1) (r + 1) p1 N = unr q (r + 1) p1 N := by rw [unr, if_neg (by omega), if_neg hle]
        refine ⟨⟨q, r + 1, p1, N, by omega, by omega, rfl, rfl, rfl, by omega, by rw [HU.out, hun], HB1.out, HB0.out, HBE.out⟩, by simp [intOf] <;> omega⟩
end Go.Proofs.YtjifajigigflkaaDoor
/- Package bits: After. -/
namespace Go.Proofs.YtjifajigigflkaaDoor
set_option linter.unusedSimpArgs false
set_option linter.unusedVariables false
open Go Go.RowKit

/-- The last number of the run in which l is. -/
def runE (N : Nat) : Nat → Nat → Nat
  | 0, l => l
  | f + 1, l => if N.testBit (l + 1) then runE N f (l + 1) else l
theorem runE_eq {N : Nat} : ∀ {f l e : Nat}, l ≤ e → e ≤ l + f → (∀ i, l < i → i ≤ e → N.testBit i = true) → N.testBit (e + 1) = false → runE N f l = e
  | 0, l, e, h1, h2, _, _ => by unfold runE; omega
  | f + 1, l, e, h1, h2, hall, he => by
    unfold runE
    by_cases hl : l = e
    · subst hl; rw [if_neg (by rw [he]; decide)]
    · rw [if_pos (hall _ (by omega) (by omega))]
      exact runE_eq (by omega) (by omega) (fun i h3 h4 => hall i (by omega) h4) he
/-- The least of the greater sets with as many numbers. -/
def afterO (N : Nat) : Option Nat :=
  match nextO N (-1) with
  | none => none
  | some f => if runE N 256 f = 255 then none else some (ins (clr N f (runE N 256 f - f + 1)) 0 (runE N 256 f - f) ||| 2 ^ (runE N 256 f + 1))
def afterV : Option Nat → Value
  | some N => .tuple #[setV N, .bool true]
  | none => .tuple #[setV 0, .bool false]

/-- Whether a set has a number, of whatever kind. -/
def hasB (N : Nat) (n : Int) : Bool := decide (0 ≤ n) && decide (n ≤ 255) && N.testBit n.toNat
theorem testBit_big {N m : Nat} (h : N < 2 ^ 256) (hm : 256 ≤ m) : N.testBit m = false :=
  Nat.testBit_lt_two_pow (Nat.lt_of_lt_of_le h (Nat.pow_le_pow_right (by decide) (by omega)))
theorem hasB_nat {N m : Nat} (h : N < 2 ^ 256) : hasB N (m : Int) = N.testBit m := by
  unfold hasB
  by_cases hm : m < 256
  · simp [show (m : Int) ≤ 255 by omega]
  · simp [testBit_big h (by omega : 256 ≤ m)]
theorem Blk.newS1 (w : World) (o : Obj) (t : TypeId) : Blk ((w.alloc o).alloc (.cells #[.int .u64 0, .int .u64 0, .int .u64 0, .int .u64 0] t)) (w.heap.size + 1) (setA 0) t := by
  have := Blk.newS (w.alloc o) t
  rwa [show (w.alloc o).heap.size = w.heap.size + 1 by simp] at this
theorem below_new1 (w : World) (o : Obj) : Below w.heap.size w (w.alloc o) := (Below.refl _ w).alloc (Nat.le_refl _) _
theorem below_new2 (w : World) (o o' : Obj) : Below w.heap.size w ((w.alloc o).alloc o') := ((Below.refl _ w).alloc (Nat.le_refl _) _).alloc (by simp) _
theorem has_any (N : Nat) (n : Int) (w : World) :
    Calls Tryd.prog 27 #[setV N, .int .i64 n] w fun e w' => e = .returned (.bool (hasB N n)) ∧ Below w.heap.size w w' := by
  by_cases h : n < 0 ∨ 255 < n
  · have := has_out N n w h
    have e : hasB N n = false := by unfold hasB; rcases h with h | h <;> simp <;> omega
    rw [e]; exact this
  · obtain ⟨m, rfl⟩ := Int.eq_ofNat_of_zero_le (show 0 ≤ n by omega)
    have := has_in N m w (by omega)
    have e : hasB N (m : Int) = N.testBit m := by unfold hasB; simp; omega
    rw [e]; exact this
theorem zero_of_bits {N : Nat} (h : N < 2 ^ 256) (hb : ∀ i, i < 256 → N.testBit i = false) : N = 0 := by
  apply Nat.eq_of_testBit_eq; intro i
  rw [Nat.zero_testBit]
  by_cases hi : i < 256
  · exact hb i hi
  · exact testBit_big h (by omega)
theorem Calls.named {P : Program} {f : FuncId} {args : Array Value} {Q : Ending → World → Prop} {W : World} (C : World → Prop) (hC : C W) (h : ∀ V, C V → Calls P f args V Q) : Calls P f args W Q := h W hC
/-- What After knows of its two blocks. -/
abbrev AfterFr (w : World) (N : Nat) (V : World) : Prop := Blk V w.heap.size (setA N) 25 ∧ Blk V (w.heap.size + 1) (setA 0) 25 ∧ Below w.heap.size w V

set_option maxRecDepth 100000 in
set_option maxHeartbeats 400000 in
theorem after_none (N : Nat) (w : World) (hg : Gl w) (hN : N < 2 ^ 256) (h : nextO N (-1) = none) :
    Calls Tryd.prog 51 #[setV N] w fun e w' => e = .returned (.tuple #[setV 0, .bool false]) ∧ Below w.heap.size w w' := by
  have hz : N = 0 := zero_of_bits hN fun i hi => of_next_none h i (by omega) hi
  subst hz
  have hh : ∀ w, Calls Tryd.prog 27 #[setV 0, .int .i64 1] w fun e w' => e = .returned (.bool false) ∧ Below w.heap.size w w' := fun w => by
    have := has_any 0 1 w
    rwa [show hasB 0 1 = false by decide] at this
  have HG := Lib.hid hg
  have H := Lib.hid h
  clear hg h
  go_enter Tryd.func51, Tryd.ntmps51
  simp only [setV]
  go_wp2_with (first | (go_at_call 21; refine Calls.named (AfterFr w 0) (⟨(Blk.newW _ _ _).alloc _, Blk.newS1 _ _ _, below_new2 _ _ _⟩) ?_; rintro W ⟨hHB1, hHB2, hHBE⟩; replace HB1 := Lib.hid hHB1; replace HB2 := Lib.hid hHB2; replace HBE := Lib.hid hHBE; clear hHB1 hHB2 hHBE; replace HG := Lib.hid (HG.out.below HBE.out); refine (next_none H.out _ HG.out).mono ?_; rintro e w2 ⟨rfl, hb⟩; replace HB1 := Lib.hid (HB1.out.below hb HB1.out.lt); replace HB2 := Lib.hid (HB2.out.below hb HB2.out.lt); replace HBE := Lib.hid (HBE.out.trans (hb.mono HBE.out.size)); obtain ⟨d0, d1, d2, d3, df⟩ := HB1.out.set4; clear hb; try simp only [setV]))
  refine wp_loop_rounds 2 ?_
  rw [rounds_succ]
  go_wp2_with (first | (go_at_call 27; refine (hh _).mono ?_; rintro e w2 ⟨rfl, hb⟩; replace HB1 := Lib.hid (HB1.out.below hb HB1.out.lt); replace HB2 := Lib.hid (HB2.out.below hb HB2.out.lt); replace HBE := Lib.hid (HBE.out.trans (hb.mono HBE.out.size)); obtain ⟨e0, e1, e2, e3, ef⟩ := HB2.out.set4; clear hb; try simp only [setV]))
  refine named (fun W => Blk W (w.heap.size + 1) (setA (0)) 25 ∧ Below w.heap.size w W) ⟨HB2.out.putZ, below_put4 HBE.out (by omega) _ _ _ _⟩ ?_; rintro W ⟨hB, hbW⟩; obtain ⟨q0, q1, q2, q3, _⟩ := hB.set4; exact bodyPost_ret (v := .tuple #[setV 0, .bool false]) (by simp [results, Tryd.results51, go_sem, q0, q1, q2, q3, setV]) rfl ⟨rfl, hbW⟩

set_option maxRecDepth 100000 in
set_option maxHeartbeats 1000000 in
theorem after_some (N f l : Nat) (w : World) (hg : Gl w) (hN : N < 2 ^ 256) (h : nextO N (-1) = some f) (hfl : f ≤ l) (hl : l < 256) (hall : ∀ i, f ≤ i → i ≤ l → N.testBit i = true) (hend : N.testBit (l + 1) = false) :
    Calls Tryd.prog 51 #[setV N] w fun e w' => e = .returned (afterV (if l = 255 then none else some (ins (clr N f (l - f + 1)) 0 (l - f) ||| 2 ^ (l + 1)))) ∧ Below w.heap.size w w' := by
  have hh : ∀ (c : Nat) (b : Bool) (hb : N.testBit (c + 1) = b) (w : World), Calls Tryd.prog 27 #[setV N, .int .i64 ((c : Int) + 1)] w fun e w' => e = .returned (.bool b) ∧ Below w.heap.size w w' := fun c b hb w => by
    subst hb
    have := has_any N ((c + 1 : Nat) : Int) w
    rw [hasB_nat hN] at this
    rwa [show ((c + 1 : Nat) : Int) = (c : Int) + 1 by omega] at this
  have HG := Lib.hid hg
  have H := Lib.hid h
  have HEND := Lib.hid hend
  have HALL := Lib.hid hall
  clear hg h hend hall
  go_enter Tryd.func51, Tryd.ntmps51
  simp only [setV]
  go_wp2_with (first | (go_at_call 21; refine Calls.named (AfterFr w N) (⟨(Blk.newW _ _ _).alloc _, Blk.newS1 _ _ _, below_new2 _ _ _⟩) ?_; rintro W ⟨hHB1, hHB2, hHBE⟩; replace HB1 := Lib.hid hHB1; replace HB2 := Lib.hid hHB2; replace HBE := Lib.hid hHBE; clear hHB1 hHB2 hHBE; replace HG := Lib.hid (HG.out.below HBE.out); refine (next_some H.out _ HG.out).mono ?_; rintro e w2 ⟨rfl, hb⟩; replace HB1 := Lib.hid (HB1.out.below hb HB1.out.lt); replace HB2 := Lib.hid (HB2.out.below hb HB2.out.lt); replace HBE := Lib.hid (HBE.out.trans (hb.mono HBE.out.size)); obtain ⟨d0, d1, d2, d3, df⟩ := HB1.out.set4; clear hb; try simp only [setV]))
  go_loopw [6] (fun t wr => ∃ c : Nat, f ≤ c ∧ c ≤ l ∧ t = .int .i64 c ∧ AfterFr w N wr) (fun t _ => l - (intOf t).toNat)
  case atStart => exact ⟨f, by omega, hfl, rfl, HB1.out, HB2.out, HBE.out⟩
  case round =>
    clear HB1 HB2 HBE
    obtain ⟨c, hc1, hc2, rfl, hB1, hB2, hBE⟩ := hrel
    have HB1 := Lib.hid hB1
    have HB2 := Lib.hid hB2
    have HBE := Lib.hid hBE
    obtain ⟨d0, d1, d2, d3, df⟩ := hB1.set4
    clear hB1 hB2 hBE
    by_cases hlt : c < l
    · have hT := HALL.out (c + 1) (by omega) (by omega)
      go_wp2_with (first | (go_at_call 27; refine (hh c true hT _).mono ?_; rintro e w2 ⟨rfl, hb⟩; replace HB1 := Lib.hid (HB1.out.below hb HB1.out.lt); replace HB2 := Lib.hid (HB2.out.below hb HB2.out.lt); replace HBE := Lib.hid (HBE.out.trans (hb.mono HBE.out.size)); clear hb; try simp only [setV]))
      refine ⟨⟨c + 1, by omega, by omega, rfl, HB1.out, HB2.out, HBE.out⟩, by simp [intOf] <;> omega⟩
    · obtain rfl : c = l := by omega
      have hT := HEND.out
      by_cases h255 : c = 255
      · subst h255
        go_wp2_with (first | (go_at_call 27; refine (hh 255 false hT _).mono ?_; rintro e w2 ⟨rfl, hb⟩; replace HB1 := Lib.hid (HB1.out.below hb HB1.out.lt); replace HB2 := Lib.hid (HB2.out.below hb HB2.out.lt); replace HBE := Lib.hid (HBE.out.trans (hb.mono HBE.out.size)); obtain ⟨e0, e1, e2, e3, ef⟩ := HB2.out.set4; clear hb; try simp only [setV]))
        refine named (fun W => Blk W (w.heap.size + 1) (setA (0)) 25 ∧ Below w.heap.size w W) ⟨HB2.out.putZ, below_put4 HBE.out (by omega) _ _ _ _⟩ ?_; rintro W ⟨hB, hbW⟩; obtain ⟨q0, q1, q2, q3, _⟩ := hB.set4; exact bodyPost_ret (v := .tuple #[setV 0, .bool false]) (by simp [results, Tryd.results51, go_sem, q0, q1, q2, q3, setV]) rfl ⟨rfl, hbW⟩
      · have h6 : ((c : Int) == 255) = false := beq_eq_false_iff_ne.2 (by omega)
        go_wp2_with (first | (go_at_call 27; refine (hh c false hT _).mono ?_; rintro e w2 ⟨rfl, hb⟩; replace HB1 := Lib.hid (HB1.out.below hb HB1.out.lt); replace HB2 := Lib.hid (HB2.out.below hb HB2.out.lt); replace HBE := Lib.hid (HBE.out.trans (hb.mono HBE.out.size)); clear hb; try simp only [setV]))
        clear d0 d1 d2 d3 df hT
        go_loopw [7] (fun t wr => ∃ n : Nat, f ≤ n ∧ n ≤ c + 1 ∧ t = .int .i64 n ∧ AfterFr w (clr N f (n - f)) wr) (fun t _ => c + 1 - (intOf t).toNat)
        case atStart => exact ⟨f, by omega, by omega, rfl, by rw [Nat.sub_self]; exact ⟨HB1.out, HB2.out, HBE.out⟩⟩
        case round =>
          clear HB1 HB2 HBE
          obtain ⟨n, hn1, hn2, rfl, hB1, hB2, hBE⟩ := hrel
          have HB1 := Lib.hid hB1
          have HB2 := Lib.hid hB2
          have HBE := Lib.hid hBE
          obtain ⟨d0, d1, d2, d3, df⟩ := hB1.set4
          clear hB1 hB2 hBE
          by_cases hkl : n ≤ c
          · have HE : Hid (clr N f (n + 1 - f) = diff (clr N f (n - f)) (2 ^ n)) := by
              rw [Hid, show n + 1 - f = (n - f) + 1 by omega, clr, show f + (n - f) = n by omega]
            go_wp2_with (first | (go_at_call 29; refine (without_in _ n _ (by omega)).mono ?_; rintro e w2 ⟨rfl, hb⟩; replace HB1 := Lib.hid (HB1.out.below hb HB1.out.lt); replace HB2 := Lib.hid (HB2.out.below hb HB2.out.lt); replace HBE := Lib.hid (HBE.out.trans (hb.mono HBE.out.size)); obtain ⟨d0, d1, d2, d3, df⟩ := HB1.out.set4; clear hb; try simp only [setV]))
            exact ⟨⟨n + 1, by omega, by omega, rfl, by rw [HE.out]; exact ⟨HB1.out.putS _, HB2.out.other4 (by omega) _ _ _ _, below_put4 HBE.out (Nat.le_refl _) _ _ _ _⟩⟩, by simp [intOf] <;> omega⟩
          · obtain rfl : n = c + 1 := by omega
            have hle : decide (c + 1 ≤ c) = false := decide_eq_false (by omega)
            have hsub : (c : Int) - f = ((c - f : Nat) : Int) := by omega
            have hE : c + 1 - f = c - f + 1 := by omega
            rw [hE] at HB1 d0 d1 d2 d3
            clear hE
            go_wp2
            clear d0 d1 d2 d3 df hle
            go_loopw [40] (fun t wr => ∃ n : Nat, n ≤ c - f ∧ t = .int .i64 n ∧ AfterFr w (ins (clr N f (c - f + 1)) 0 n) wr) (fun t _ => c + 1 - (intOf t).toNat)
            case atStart => exact ⟨0, by omega, rfl, HB1.out, HB2.out, HBE.out⟩
            case round =>
              clear HB1 HB2 HBE
              obtain ⟨n, hn1, rfl, hB1, hB2, hBE⟩ := hrel
              have HB1 := Lib.hid hB1
              have HB2 := Lib.hid hB2
              have HBE := Lib.hid hBE
              obtain ⟨d0, d1, d2, d3, df⟩ := hB1.set4
              clear hB1 hB2 hBE
              by_cases hkl : n < c - f
              · go_wp2_with (first | (go_at_call 19; refine (with_in _ n _ (by omega)).mono ?_; rintro e w2 ⟨rfl, hb⟩; replace HB1 := Lib.hid (HB1.out.below hb HB1.out.lt); replace HB2 := Lib.hid (HB2.out.below hb HB2.out.lt); replace HBE := Lib.hid (HBE.out.trans (hb.mono HBE.out.size)); obtain ⟨d0, d1, d2, d3, df⟩ := HB1.out.set4; clear hb; try simp only [setV]))
                exact ⟨⟨n + 1, by omega, rfl, by rw [ins, Nat.zero_add]; exact ⟨HB1.out.putS _, HB2.out.other4 (by omega) _ _ _ _, below_put4 HBE.out (Nat.le_refl _) _ _ _ _⟩⟩, by simp [intOf] <;> omega⟩
              · obtain rfl : n = c - f := by omega
                have hw := fun w => with_in (ins (clr N f (c - f + 1)) 0 (c - f)) (c + 1) w (by omega)
                rw [show ((c + 1 : Nat) : Int) = (c : Int) + 1 by omega] at hw
                go_wp2_with (first | (go_at_call 19; refine (hw _).mono ?_; rintro e w2 ⟨rfl, hb⟩; replace HB1 := Lib.hid (HB1.out.below hb HB1.out.lt); replace HB2 := Lib.hid (HB2.out.below hb HB2.out.lt); replace HBE := Lib.hid (HBE.out.trans (hb.mono HBE.out.size)); obtain ⟨d0, d1, d2, d3, df⟩ := HB1.out.set4; obtain ⟨e0, e1, e2, e3, ef⟩ := HB2.out.set4; clear hb; try simp only [setV]))
                refine named (fun W => Blk W (w.heap.size + 1) (setA (ins (clr N f (c - f + 1)) 0 (c - f) ||| 2 ^ (c + 1))) 25 ∧ Below w.heap.size w W) ⟨(HB2.out.other4 (b' := w.heap.size) (by omega) _ _ _ _).putS _, below_put4 (below_put4 HBE.out (Nat.le_refl _) _ _ _ _) (by omega) _ _ _ _⟩ ?_; rintro W ⟨hB, hbW⟩; obtain ⟨q0, q1, q2, q3, _⟩ := hB.set4; exact bodyPost_ret (v := .tuple #[setV (ins (clr N f (c - f + 1)) 0 (c - f) ||| 2 ^ (c + 1)), .bool true]) (by simp [results, Tryd.results51, go_sem, q0, q1, q2, q3, setV]) rfl ⟨rfl, hbW⟩
theorem run_of {N f : Nat} (hN : N < 2 ^ 256) (hf : N.testBit f = true) : f ≤ runE N 256 f ∧ runE N 256 f < 256 ∧ (∀ i, f ≤ i → i ≤ runE N 256 f → N.testBit i = true) ∧ N.testBit (runE N 256 f + 1) = false := by
  have hf256 : f < 256 := by
    by_cases h : f < 256
    · exact h
    · rw [testBit_big hN (by omega)] at hf; cases hf
  obtain ⟨l, h1, h2, h3, h4⟩ : ∃ l, f ≤ l ∧ l < 256 ∧ (∀ i, f ≤ i → i ≤ l → N.testBit i = true) ∧ N.testBit (l + 1) = false := by
    have : ∀ d l, l + d = 256 → f ≤ l → l < 256 → (∀ i, f ≤ i → i ≤ l → N.testBit i = true) → ∃ l, f ≤ l ∧ l < 256 ∧ (∀ i, f ≤ i → i ≤ l → N.testBit i = true) ∧ N.testBit (l + 1) = false := by
      intro d
      induction d with
      | zero => intro l h1 _ h3; omega
      | succ d ih =>
        intro l h1 h2 h3 h4
        by_cases hb : N.testBit (l + 1) = true
        · have hl : l + 1 < 256 := by
            by_cases h : l + 1 < 256
            · exact h
            · rw [testBit_big hN (by omega)] at hb; cases hb
          exact ih (l + 1) (by omega) (by omega) hl fun i h5 h6 => by
            by_cases hi : i = l + 1
            · rw [hi]; exact hb
            · exact h4 i h5 (by omega)
        · exact ⟨l, h2, h3, h4, by simpa using hb⟩
    exact this (256 - f) f (by omega) (Nat.le_refl _) hf256 fun i h1 h2 => by rw [show i = f by omega]; exact hf
  have e : runE N 256 f = l := runE_eq h1 (by omega) (fun i h5 h6 => h3 i (by omega) h6) h4
  rw [e]
  exact ⟨h1, h2, h3, h4⟩
theorem after_any (N : Nat) (w : World) (hg : Gl w) (hN : N < 2 ^ 256) :
    Calls Tryd.prog 51 #[setV N] w fun e w' => e = .returned (afterV (afterO N)) ∧ Below w.heap.size w w' := by
  unfold afterO
  cases h : nextO N (-1) with
  | none => exact after_none N w hg hN h
  | some f =>
    obtain ⟨_, hf2, hf3, _⟩ := of_next_some h
    obtain ⟨h1, h2, h3, h4⟩ := run_of hN hf3
    exact after_some N f (runE N 256 f) w hg hN h h1 h2 h3 h4
end Go.Proofs.YtjifajigigflkaaDoor
