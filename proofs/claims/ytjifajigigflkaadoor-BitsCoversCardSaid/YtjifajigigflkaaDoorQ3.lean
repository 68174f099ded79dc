/- Size counts the numbers of a set. -/
import Derived.Test.YtjifajigigflkaaDoorQ1
import Derived.Test.YtjifajigigflkaaDoorQ2
import Derived.Lib.Hide
/- How many bits a number has: counted bit by bit, and byte by byte as math/bits does it. -/
namespace Go.Proofs.YtjifajigigflkaaDoor
set_option linter.unusedSimpArgs false
set_option linter.unusedVariables false

/-- How many of the lowest n bits are set. -/
def cnt (x : Nat) : Nat → Nat
  | 0 => 0
  | n + 1 => cnt x n + (x.testBit n).toNat

/-- The number with these bytes, the lowest first. -/
def val : List Nat → Nat
  | [] => 0
  | r :: l => r + 256 * val l
def rep (b : Nat) : Nat → List Nat
  | 0 => []
  | n + 1 => b :: rep b n

theorem and_byte (y z r s : Nat) (hr : r < 256) (hs : s < 256) : (r + 256 * y) &&& (s + 256 * z) = (r &&& s) + 256 * (y &&& z) := by
  have h1 : (r + 256 * y) / 2 ^ 8 = y := by omega
  have h2 : (s + 256 * z) / 2 ^ 8 = z := by omega
  have h3 : (r + 256 * y) % 2 ^ 8 = r := by omega
  have h4 : (s + 256 * z) % 2 ^ 8 = s := by omega
  have e1 : ((r + 256 * y) &&& (s + 256 * z)) / 2 ^ 8 = y &&& z := by rw [Nat.and_div_two_pow, h1, h2]
  have e2 : ((r + 256 * y) &&& (s + 256 * z)) % 2 ^ 8 = r &&& s := by rw [Nat.and_mod_two_pow, h3, h4]
  have := Nat.div_add_mod ((r + 256 * y) &&& (s + 256 * z)) (2 ^ 8)
  rw [e1, e2] at this
  omega

def stA (r : Nat) : Nat := ((r / 2) &&& 85) + (r &&& 85)
def stB (r : Nat) : Nat := ((r / 4) &&& 51) + (r &&& 51)
def stC (r : Nat) : Nat := (r / 16 + r) &&& 15

theorem dA : ∀ b, b < 2 → ∀ r, r < 256 → (r / 2 + 128 * b) &&& 85 = (r / 2) &&& 85 := by decide +kernel
theorem dB : ∀ b, b < 4 → ∀ r, r < 256 → (r / 4 + 64 * b) &&& 51 = (r / 4) &&& 51 := by decide +kernel
theorem lA : ∀ r, r < 256 → stA r < 256 := by decide +kernel
/-- A byte's bits: after both steps each half holds at most 4, and together they are the bits of the byte. -/
theorem byte_ok : ∀ r, r < 256 → stB (stA r) % 16 ≤ 4 ∧ stB (stA r) / 16 ≤ 4 ∧ stC (stB (stA r)) = cnt r 8 := by decide +kernel

theorem step_A : ∀ (l : List Nat), (∀ r ∈ l, r < 256) → ((val l / 2) &&& val (rep 85 l.length)) + (val l &&& val (rep 85 l.length)) = val (l.map stA)
  | [], _ => by simp [val, rep]
  | r :: l, h => by
    have ih := step_A l (fun r hr => h r (List.mem_cons_of_mem _ hr))
    have hr := h r List.mem_cons_self
    simp only [val, rep, List.length_cons, List.map_cons]
    have e : (r + 256 * val l) / 2 = (r / 2 + 128 * (val l % 2)) + 256 * (val l / 2) := by omega
    rw [e, and_byte _ _ _ _ (by omega) (by decide), and_byte _ _ _ _ hr (by decide), dA _ (by omega) r hr, ← ih]
    unfold stA
    omega
theorem step_B : ∀ (l : List Nat), (∀ r ∈ l, r < 256) → ((val l / 4) &&& val (rep 51 l.length)) + (val l &&& val (rep 51 l.length)) = val (l.map stB)
  | [], _ => by simp [val, rep]
  | r :: l, h => by
    have ih := step_B l (fun r hr => h r (List.mem_cons_of_mem _ hr))
    have hr := h r List.mem_cons_self
    simp only [val, rep, List.length_cons, List.map_cons]
    have e : (r + 256 * val l) / 4 = (r / 4 + 64 * (val l % 4)) + 256 * (val l / 4) := by omega
    rw [e, and_byte _ _ _ _ (by omega) (by decide), and_byte _ _ _ _ hr (by decide), dB _ (by omega) r hr, ← ih]
    unfold stB
    omega
theorem val_low (l : List Nat) (h : ∀ r ∈ l, r < 256 ∧ r % 16 ≤ 4) : val l % 16 ≤ 4 := by
  cases l with
  | nil => simp [val]
  | cons r l => have := h r List.mem_cons_self; simp only [val]; omega
theorem step_C : ∀ (l : List Nat), (∀ r ∈ l, r < 256 ∧ r % 16 ≤ 4 ∧ r / 16 ≤ 4) → (val l / 16 + val l) &&& val (rep 15 l.length) = val (l.map stC)
  | [], _ => by simp [val, rep]
  | r :: l, h => by
    have ih := step_C l (fun r hr => h r (List.mem_cons_of_mem _ hr))
    have hr := h r List.mem_cons_self
    have hl := val_low l (fun r hr => ⟨(h r (List.mem_cons_of_mem _ hr)).1, (h r (List.mem_cons_of_mem _ hr)).2.1⟩)
    simp only [val, rep, List.length_cons, List.map_cons]
    have e : (r + 256 * val l) / 16 + (r + 256 * val l) = (16 * (val l % 16) + r / 16 + r) + 256 * (val l / 16 + val l) := by omega
    rw [e, and_byte _ _ _ _ (by omega) (by decide), ih]
    have e2 : (16 * (val l % 16) + r / 16 + r) &&& 15 = (r / 16 + r) &&& 15 := by
      rw [show 15 = 2 ^ 4 - 1 from rfl, Nat.and_two_pow_sub_one_eq_mod, Nat.and_two_pow_sub_one_eq_mod]; omega
    rw [e2]
    rfl

theorem cnt_add (x n m : Nat) : cnt x (n + m) = cnt x n + cnt (x / 2 ^ n) m := by
  induction m with
  | zero => rfl
  | succ m ih =>
    show cnt x (n + m) + (x.testBit (n + m)).toNat = cnt x n + (cnt (x / 2 ^ n) m + ((x / 2 ^ n).testBit m).toNat)
    rw [ih, Nat.testBit_div_two_pow, Nat.add_comm m n]; omega
theorem cnt_congr (x y n : Nat) (h : ∀ k, k < n → x.testBit k = y.testBit k) : cnt x n = cnt y n := by
  induction n with
  | zero => rfl
  | succ n ih => simp only [cnt]; rw [ih (fun k hk => h k (by omega)), h n (by omega)]
theorem cnt_mod (x n : Nat) : cnt (x % 2 ^ n) n = cnt x n :=
  cnt_congr _ _ _ fun k hk => by rw [Nat.testBit_mod_two_pow]; simp [hk]
theorem cnt_le (x n : Nat) : cnt x n ≤ n := by
  induction n with
  | zero => exact Nat.le_refl _
  | succ n ih => simp only [cnt]; cases x.testBit n <;> simp <;> omega
/-- The bytes of a word. -/
def bytes8 (x : Nat) : List Nat := [x % 256, x / 256 % 256, x / 65536 % 256, x / 16777216 % 256, x / 4294967296 % 256, x / 1099511627776 % 256, x / 281474976710656 % 256, x / 72057594037927936 % 256]
theorem val_bytes8 (x : Nat) (h : x < 18446744073709551616) : val (bytes8 x) = x := by
  simp only [val, bytes8]; omega
theorem bytes8_lt (x : Nat) : ∀ r ∈ bytes8 x, r < 256 := by
  intro r hr
  simp only [bytes8, List.mem_cons, List.not_mem_nil, or_false] at hr
  omega
def sum8 : List Nat → Nat
  | [] => 0
  | r :: l => r + sum8 l
theorem cnt_val : ∀ (l : List Nat), (∀ r ∈ l, r < 256) → cnt (val l) (8 * l.length) = sum8 (l.map (cnt · 8))
  | [], _ => rfl
  | r :: l, h => by
    have ih := cnt_val l (fun r hr => h r (List.mem_cons_of_mem _ hr))
    have hr := h r List.mem_cons_self
    simp only [List.length_cons, List.map_cons, sum8]
    rw [show 8 * (l.length + 1) = 8 + 8 * l.length by omega, cnt_add, ← cnt_mod (val (r :: l)) 8]
    have e1 : val (r :: l) % 2 ^ 8 = r := by simp only [val]; omega
    have e2 : val (r :: l) / 2 ^ 8 = val l := by simp only [val]; omega
    rw [e1, e2, ih]
theorem div_of {a r k y : Nat} (h : a = r + k * y) (hr : r < k) : a / k = y := by
  subst h; rw [Nat.add_mul_div_left _ _ (by omega), Nat.div_eq_of_lt hr]; omega
theorem mod_of {a r k y : Nat} (h : a = r + k * y) (hr : r < k) : a % k = r := by
  subst h; rw [Nat.add_mul_mod_self_left, Nat.mod_eq_of_lt hr]
theorem fold_id (p0 p1 p2 p3 p4 p5 p6 p7 : Nat) : (p0 + p1 + p2 + p3) + 256 * (p1 + p2 + p3 + p4) + 65536 * (p2 + p3 + p4 + p5) + 16777216 * (p3 + p4 + p5 + p6) + 4294967296 * ((p4 + p5 + p6 + p7) + 256 * ((p5 + p6 + p7) + 256 * ((p6 + p7) + 256 * p7))) + ((p4 + p5 + p6 + p7) + 256 * ((p5 + p6 + p7) + 256 * ((p6 + p7) + 256 * p7)))
    = (p0 + p1 + p2 + p3 + p4 + p5 + p6 + p7) + 128 * (2 * ((p1 + p2 + p3 + p4) + (p5 + p6 + p7) + 256 * (p2 + p3 + p4 + p5) + 65536 * (p3 + p4 + p5 + p6) + 16777216 * ((p4 + p5 + p6 + p7) + 256 * ((p5 + p6 + p7) + 256 * ((p6 + p7) + 256 * p7))) + 256 * ((p6 + p7) + 256 * p7))) := by
  omega
/-- What math/bits does at the end: all bytes together. -/
theorem fold8 (p0 p1 p2 p3 p4 p5 p6 p7 c d e f : Nat) (h0 : p0 ≤ 8) (h1 : p1 ≤ 8) (h2 : p2 ≤ 8) (h3 : p3 ≤ 8) (h4 : p4 ≤ 8) (h5 : p5 ≤ 8) (h6 : p6 ≤ 8) (h7 : p7 ≤ 8)
    (hc : c = p0 + 256 * (p1 + 256 * (p2 + 256 * (p3 + 256 * (p4 + 256 * (p5 + 256 * (p6 + 256 * p7)))))))
    (hd : d = c + c / 256) (he : e = d + d / 65536) (hf : f = e + e / 4294967296) : f % 128 = p0 + p1 + p2 + p3 + p4 + p5 + p6 + p7 := by
  have hr : p0 + p1 + p2 + p3 + p4 + p5 + p6 + p7 < 128 := by omega
  rw [div_of hc (by omega)] at hd
  have d1 : d = ((p0 + p1) + 256 * (p1 + p2)) + 65536 * ((p2 + p3) + 256 * ((p3 + p4) + 256 * ((p4 + p5) + 256 * ((p5 + p6) + 256 * ((p6 + p7) + 256 * p7))))) := by rw [hd, hc]; omega
  rw [div_of d1 (by omega)] at he
  have e1 : e = ((p0 + p1 + p2 + p3) + 256 * (p1 + p2 + p3 + p4) + 65536 * (p2 + p3 + p4 + p5) + 16777216 * (p3 + p4 + p5 + p6)) + 4294967296 * ((p4 + p5 + p6 + p7) + 256 * ((p5 + p6 + p7) + 256 * ((p6 + p7) + 256 * p7))) := by rw [he, d1]; omega
  rw [div_of e1 (by omega)] at hf
  have f1 := fold_id p0 p1 p2 p3 p4 p5 p6 p7
  rw [← e1, ← hf] at f1
  exact mod_of f1 hr
theorem fold8_lt (p0 p1 p2 p3 p4 p5 p6 p7 c d e f : Nat) (h7 : p7 ≤ 8) (h0 : p0 ≤ 8) (h1 : p1 ≤ 8) (h2 : p2 ≤ 8) (h3 : p3 ≤ 8) (h4 : p4 ≤ 8) (h5 : p5 ≤ 8) (h6 : p6 ≤ 8)
    (hc : c = p0 + 256 * (p1 + 256 * (p2 + 256 * (p3 + 256 * (p4 + 256 * (p5 + 256 * (p6 + 256 * p7)))))))
    (hd : d = c + c / 256) (he : e = d + d / 65536) (hf : f = e + e / 4294967296) : f < 9223372036854775808 := by
  have hcl : c ≤ 8 * 72340172838076673 := by omega
  have l1 := Nat.div_le_self c 256
  have l2 := Nat.div_le_self d 65536
  have l3 := Nat.div_le_self e 4294967296
  generalize c / 256 = q1 at *
  generalize d / 65536 = q2 at *
  generalize e / 4294967296 = q3 at *
  clear hc
  omega
end Go.Proofs.YtjifajigigflkaaDoor
/- math/bits.OnesCount64, and package bits: Size. -/
namespace Go.Proofs.YtjifajigigflkaaDoor
set_option linter.unusedSimpArgs false
set_option linter.unusedVariables false
open Go Go.RowKit
attribute [local go_sem] index_set0 index_set1 index_set2 index_set3

def onA (x : Nat) : Nat := ((x / 2) &&& 6148914691236517205) + (x &&& 6148914691236517205)
def onB (a : Nat) : Nat := ((a / 4) &&& 3689348814741910323) + (a &&& 3689348814741910323)
def onC (b : Nat) : Nat := (b / 16 + b) &&& 1085102592571150095
def onD (c : Nat) : Nat := c + c / 256
def onE (d : Nat) : Nat := d + d / 65536
def onF (e : Nat) : Nat := e + e / 4294967296

theorem len8 (x : Nat) : (bytes8 x).length = 8 := rfl
theorem onA_val (x : Nat) (h : x < 18446744073709551616) : onA x = val ((bytes8 x).map stA) := by
  have := step_A (bytes8 x) (bytes8_lt x)
  rw [val_bytes8 x h, len8] at this
  exact this
theorem mapA_lt (x : Nat) : ∀ r ∈ (bytes8 x).map stA, r < 256 := by
  intro r hr
  obtain ⟨q, hq, rfl⟩ := List.mem_map.1 hr
  exact lA q (bytes8_lt x q hq)
theorem onB_val (x : Nat) (h : x < 18446744073709551616) : onB (onA x) = val (((bytes8 x).map stA).map stB) := by
  have := step_B ((bytes8 x).map stA) (mapA_lt x)
  rw [← onA_val x h, List.length_map, len8] at this
  exact this
theorem mapB_ok (x : Nat) : ∀ r ∈ ((bytes8 x).map stA).map stB, r < 256 ∧ r % 16 ≤ 4 ∧ r / 16 ≤ 4 := by
  intro r hr
  obtain ⟨q, hq, rfl⟩ := List.mem_map.1 hr
  obtain ⟨p, hp, rfl⟩ := List.mem_map.1 hq
  have := byte_ok p (bytes8_lt x p hp)
  omega
theorem onC_val (x : Nat) (h : x < 18446744073709551616) : onC (onB (onA x)) = val ((bytes8 x).map (cnt · 8)) := by
  have := step_C (((bytes8 x).map stA).map stB) (mapB_ok x)
  rw [← onB_val x h, List.length_map, List.length_map, len8, List.map_map, List.map_map] at this
  refine Eq.trans this ?_
  congr 1
  exact List.map_congr_left fun r hr => (byte_ok r (bytes8_lt x r hr)).2.2
theorem onF_spec (x : Nat) (h : x < 18446744073709551616) : onF (onE (onD (onC (onB (onA x))))) % 128 = cnt x 64 ∧ onF (onE (onD (onC (onB (onA x))))) < 9223372036854775808 := by
  have hv := onC_val x h
  have hs := cnt_val (bytes8 x) (bytes8_lt x)
  rw [val_bytes8 x h, len8] at hs
  generalize onC (onB (onA x)) = c at *
  rw [show (8 * 8 : Nat) = 64 from rfl] at hs
  rw [hs]
  unfold bytes8 at *
  simp only [List.map_cons, List.map_nil, val, sum8, Nat.mul_zero, Nat.add_zero] at hv ⊢
  have l0 := cnt_le (x % 256) 8; have l1 := cnt_le (x / 256 % 256) 8; have l2 := cnt_le (x / 65536 % 256) 8; have l3 := cnt_le (x / 16777216 % 256) 8
  have l4 := cnt_le (x / 4294967296 % 256) 8; have l5 := cnt_le (x / 1099511627776 % 256) 8; have l6 := cnt_le (x / 281474976710656 % 256) 8; have l7 := cnt_le (x / 72057594037927936 % 256) 8
  generalize cnt (x % 256) 8 = p0 at *; generalize cnt (x / 256 % 256) 8 = p1 at *; generalize cnt (x / 65536 % 256) 8 = p2 at *; generalize cnt (x / 16777216 % 256) 8 = p3 at *
  generalize cnt (x / 4294967296 % 256) 8 = p4 at *; generalize cnt (x / 1099511627776 % 256) 8 = p5 at *; generalize cnt (x / 281474976710656 % 256) 8 = p6 at *; generalize cnt (x / 72057594037927936 % 256) 8 = p7 at *
  clear hs h
  refine ⟨?_, fold8_lt p0 p1 p2 p3 p4 p5 p6 p7 c _ _ _ l7 l0 l1 l2 l3 l4 l5 l6 hv rfl rfl rfl⟩
  exact (fold8 p0 p1 p2 p3 p4 p5 p6 p7 c (onD c) (onE (onD c)) (onF (onE (onD c))) l0 l1 l2 l3 l4 l5 l6 l7 hv rfl rfl rfl).trans (by omega)

theorem cast_div (a k : Nat) : ((a : Int) / (k : Int)) = ((a / k : Nat) : Int) := (Int.natCast_ediv a k).symm
theorem wrapA (x : Nat) (h : x < 18446744073709551616) : IntKind.u64.wrap (bits .and .u64 ((x : Int) / 2) 6148914691236517205 + bits .and .u64 x 6148914691236517205) = (onA x : Int) := by
  have h1 := bits_and_u64_nat (x / 2) 6148914691236517205 (by omega) (by decide)
  have h2 := bits_and_u64_nat x 6148914691236517205 h (by decide)
  rw [show ((x : Int) / 2) = ((x / 2 : Nat) : Int) by omega]
  rw [show ((6148914691236517205 : Nat) : Int) = 6148914691236517205 from rfl] at h1 h2
  rw [h1, h2, ← Int.natCast_add]
  have b1 : x / 2 &&& 6148914691236517205 ≤ 6148914691236517205 := Nat.and_le_right
  have b2 : x &&& 6148914691236517205 ≤ 6148914691236517205 := Nat.and_le_right
  exact IntWalk.u64_in _ (by omega)
theorem wrapB (x : Nat) (h : x < 18446744073709551616) : IntKind.u64.wrap (bits .and .u64 ((x : Int) / 4) 3689348814741910323 + bits .and .u64 x 3689348814741910323) = (onB x : Int) := by
  have h1 := bits_and_u64_nat (x / 4) 3689348814741910323 (by omega) (by decide)
  have h2 := bits_and_u64_nat x 3689348814741910323 h (by decide)
  rw [show ((x : Int) / 4) = ((x / 4 : Nat) : Int) by omega]
  rw [show ((3689348814741910323 : Nat) : Int) = 3689348814741910323 from rfl] at h1 h2
  rw [h1, h2, ← Int.natCast_add]
  have b1 : x / 4 &&& 3689348814741910323 ≤ 3689348814741910323 := Nat.and_le_right
  have b2 : x &&& 3689348814741910323 ≤ 3689348814741910323 := Nat.and_le_right
  exact IntWalk.u64_in _ (by omega)
theorem wrapC (x : Nat) (h : x ≤ 7378697629483820646) : bits .and .u64 (IntKind.u64.wrap ((x : Int) / 16 + x)) 1085102592571150095 = (onC x : Int) := by
  have h1 := bits_and_u64_nat (x / 16 + x) 1085102592571150095 (by omega) (by decide)
  rw [show ((1085102592571150095 : Nat) : Int) = 1085102592571150095 from rfl] at h1
  rw [IntWalk.u64_in ((x : Int) / 16 + x) (by omega), show ((x : Int) / 16 + x) = ((x / 16 + x : Nat) : Int) by omega, h1]
  rfl
theorem onA_lt (x : Nat) : onA x < 18446744073709551616 := by
  have b1 : x / 2 &&& 6148914691236517205 ≤ 6148914691236517205 := Nat.and_le_right
  have b2 : x &&& 6148914691236517205 ≤ 6148914691236517205 := Nat.and_le_right
  unfold onA; omega
theorem onB_le (x : Nat) : onB x ≤ 7378697629483820646 := by
  have b1 : x / 4 &&& 3689348814741910323 ≤ 3689348814741910323 := Nat.and_le_right
  have b2 : x &&& 3689348814741910323 ≤ 3689348814741910323 := Nat.and_le_right
  unfold onB; omega
theorem onC_le (x : Nat) : onC x ≤ 1085102592571150095 := Nat.and_le_right
theorem wrapD (x : Nat) (h : x ≤ 8680820740569200760) : IntKind.u64.wrap ((x : Int) + (x : Int) / 256) = (onD x : Int) := by
  have e : ((x : Int) + (x : Int) / 256) = (onD x : Int) := by unfold onD; omega
  have := Nat.div_le_self x 256
  rw [e]
  exact IntWalk.u64_in _ (by unfold onD; omega)
theorem wrapE (x : Nat) (h : x ≤ 8680820740569200760) : IntKind.u64.wrap ((x : Int) + (x : Int) / 65536) = (onE x : Int) := by
  have e : ((x : Int) + (x : Int) / 65536) = (onE x : Int) := by unfold onE; omega
  have := Nat.div_le_self x 65536
  rw [e]
  exact IntWalk.u64_in _ (by unfold onE; omega)
theorem wrapF (x : Nat) (h : x ≤ 8680820740569200760) : IntKind.u64.wrap ((x : Int) + (x : Int) / 4294967296) = (onF x : Int) := by
  have e : ((x : Int) + (x : Int) / 4294967296) = (onF x : Int) := by unfold onF; omega
  have := Nat.div_le_self x 4294967296
  rw [e]
  exact IntWalk.u64_in _ (by unfold onF; omega)
theorem final7 (f : Nat) (h : f < 9223372036854775808) : bits .and .i64 (f : Int) 127 = ((f % 128 : Nat) : Int) := by
  have hx : f &&& 127 = f % 128 := Nat.and_two_pow_sub_one_eq_mod f 7
  have h1 : (BitVec.ofInt 64 (f : Int)).toNat = f := by
    rw [BitVec.ofInt_natCast, BitVec.toNat_ofNat]; exact Nat.mod_eq_of_lt (by omega)
  have h2 : (BitVec.ofInt 64 (127 : Int)).toNat = 127 := by decide
  show IntKind.i64.wrap ((BitVec.ofInt 64 (f : Int) &&& BitVec.ofInt 64 (127 : Int)).toNat : Int) = _
  rw [BitVec.toNat_and, h1, h2, hx]
  exact IntWalk.i64_in _ (by omega)
theorem ret_int {k : IntKind} {a b : Int} (h : a = b) : Ending.returned (.int k a) = .returned (.int k b) := by rw [h]

theorem ones_any (x : Nat) (hx : x < 18446744073709551616) (w : World) :
    Calls Tryd.prog 71 #[.int .u64 x] w fun e w' => e = .returned (.int .i64 (cnt x 64)) ∧ w = w' := by
  go_enter Tryd.func71, Tryd.ntmps71
  go_wp2
  go_ret
  refine ⟨ret_int ?_, rfl⟩
  rw [wrapA x hx, wrapB _ (onA_lt x), wrapC _ (onB_le _)]
  obtain ⟨h1, h2⟩ := onF_spec x hx
  have hc := onC_le (onB (onA x))
  generalize onC (onB (onA x)) = c at *
  have hd : onD c ≤ 2170205185142300190 := by have := Nat.div_le_self c 256; unfold onD; omega
  have he : onE (onD c) ≤ 4340410370284600380 := by have := Nat.div_le_self (onD c) 65536; unfold onE; omega
  rw [wrapD c (by omega), wrapE _ (by omega), wrapF _ (by omega), IntWalk.wrap64_in _ (by omega), final7 _ h2, h1]

/-! ### Size -/
/-- How many numbers a set has. -/
def card (N : Nat) : Nat := cnt N 256
theorem card_words (N : Nat) : card N = cnt (word N 0) 64 + cnt (word N 1) 64 + cnt (word N 2) 64 + cnt (word N 3) 64 := by
  have h : ∀ i, cnt (word N i) 64 = cnt (N / 2 ^ (64 * i)) 64 := fun i => cnt_mod (N / 2 ^ (64 * i)) 64
  rw [h, h, h, h]
  unfold card
  rw [show 256 = 64 + (64 + (64 + 64)) from rfl, cnt_add, cnt_add, cnt_add, Nat.div_div_eq_div_mul, Nat.div_div_eq_div_mul, ← Nat.pow_add, ← Nat.pow_add]
  simp only [Nat.mul_zero, Nat.pow_zero, Nat.div_one, Nat.mul_one, Nat.reduceAdd, Nat.reduceMul]
  omega
set_option maxRecDepth 100000 in
theorem size_any (N : Nat) (w : World) :
    Calls Tryd.prog 37 #[setV N] w fun e w' => e = .returned (.int .i64 (card N)) ∧ Below w.heap.size w w' := by
  have c0 := cnt_le (word N 0) 64; have c1 := cnt_le (word N 1) 64; have c2 := cnt_le (word N 2) 64; have c3 := cnt_le (word N 3) 64
  have H := Lib.hid (card_words N)
  go_enter Tryd.func37, Tryd.ntmps37
  simp only [setV]
  go_wp2
  refine wp_loop_rounds 5 ?_
  rw [rounds_succ]
  go_wp2_with (first | (go_at_call 71; refine (ones_any _ (word_lt _ _) _).mono ?_; rintro e w' ⟨rfl, rfl⟩))
  rw [rounds_succ]
  go_wp2_with (first | (go_at_call 71; refine (ones_any _ (word_lt _ _) _).mono ?_; rintro e w' ⟨rfl, rfl⟩))
  rw [rounds_succ]
  go_wp2_with (first | (go_at_call 71; refine (ones_any _ (word_lt _ _) _).mono ?_; rintro e w' ⟨rfl, rfl⟩))
  rw [rounds_succ]
  go_wp2_with (first | (go_at_call 71; refine (ones_any _ (word_lt _ _) _).mono ?_; rintro e w' ⟨rfl, rfl⟩))
  rw [rounds_succ]
  go_wp2_with (first | (go_at_call 71; refine (ones_any _ (word_lt _ _) _).mono ?_; rintro e w' ⟨rfl, rfl⟩))
  go_ret
  exact ⟨by rw [H.out]; simp, (Below.refl _ _).alloc (Nat.le_refl _) _⟩
end Go.Proofs.YtjifajigigflkaaDoor
