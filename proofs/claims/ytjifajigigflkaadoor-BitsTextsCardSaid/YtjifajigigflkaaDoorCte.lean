/- For all sets and all texts, printing and parsing match the specification and undo each other: the law BitsTexts returns true. Conditions: the listed variables of Go's library hold what their text lays. -/
import Derived.Test.YtjifajigigflkaaDoorQe
import Derived.Laws.IdiomStrings
import Derived.Deep.Cut
import Derived.ChangeMaps5
namespace Go.Proofs.YtjifajigigflkaaDoor
set_option linter.unusedSimpArgs false
set_option linter.unusedVariables false
open Go Go.RowKit

def digB (n : Nat) : ByteArray := ⟨(Lib.itoa (n : Int)).toArray⟩
theorem dig_one : ∀ n : Nat, n < 10 → Lib.itoa (n : Int) = [UInt8.ofNat (48 + n)] ∧ ((UInt8.ofNat (48 + n)).toNat : Int) = 48 + n := by decide +kernel
theorem dig_more : ∀ n : Nat, n < 256 → 10 ≤ n → Lib.itoa (n : Int) = Lib.itoa ((n / 10 : Nat) : Int) ++ Lib.itoa ((n % 10 : Nat) : Int) := by decide +kernel
theorem dig_len : ∀ n : Nat, n < 256 → (Lib.itoa (n : Int)).length ≤ 3 := by decide +kernel
theorem digB_size {n : Nat} (h : n < 256) : (digB n).size ≤ 3 := dig_len n h
theorem digB_add {n : Nat} (h2 : n < 256) (h : 10 ≤ n) : digB (n / 10) ++ digB (n % 10) = digB n := by
  have e := dig_more n h2 h
  unfold digB
  rw [e]
  apply ByteArray.ext
  simp
theorem conv_dig (n : Nat) (h : n < 10) (w : World) : (convert 99 9 (.slice (some ⟨w.heap.size, 0, none⟩) 1 1)).run Tryd.prog (w.alloc (.cells #[.int .u8 (48 + (n : Int))] 5)) = .ok (.string (digB n)) (w.alloc (.cells #[.int .u8 (48 + (n : Int))] 5)) := by
  obtain ⟨h1, h2⟩ := dig_one n h
  obtain ⟨c0, _⟩ := (Blk.new w #[.int .u8 (48 + (n : Int))] 5).cell1
  have := run_convert_bytes_back (P := Tryd.prog) (w.alloc (.cells #[.int .u8 (48 + (n : Int))] 5)) 99 9 5 ⟨w.heap.size, 0, none⟩ 1 [UInt8.ofNat (48 + n)] Tryd.underlying99 Tryd.underlying5 Tryd.underlying9 (fun j hj => by
    obtain rfl : j = 0 := by simp at hj; omega
    rw [show [UInt8.ofNat (48 + n)][0] = UInt8.ofNat (48 + n) from rfl, h2]
    exact c0)
  unfold digB
  rw [h1]
  exact this
set_option maxRecDepth 100000 in
set_option maxHeartbeats 1000000 in
theorem rdig_one (n : Nat) (w : World) (h : n < 10) :
    Calls Tryd.prog 87 #[.int .i64 n] w fun e w' => e = .returned (.string (digB n)) ∧ Below w.heap.size w w' := by
  have t1 : decide (n < 10) = true := decide_eq_true h
  have t2 : decide ((n : Int) < 10) = true := decide_eq_true (by omega)
  go_enter Tryd.func87, Tryd.ntmps87
  have hc := conv_dig n h w
  go_wp2_with fail
  go_ret
  exact ⟨rfl, below_new1 _ _⟩
set_option maxRecDepth 100000 in
set_option maxHeartbeats 1000000 in
theorem rdig_step (n : Nat) (w : World) (h : 10 ≤ n) (h2 : n < 256)
    (hA : ∀ w, Calls Tryd.prog 87 #[.int .i64 (n / 10 : Nat)] w fun e w' => e = .returned (.string (digB (n / 10))) ∧ Below w.heap.size w w')
    (hB : ∀ w, Calls Tryd.prog 87 #[.int .i64 (n % 10 : Nat)] w fun e w' => e = .returned (.string (digB (n % 10))) ∧ Below w.heap.size w w') :
    Calls Tryd.prog 87 #[.int .i64 n] w fun e w' => e = .returned (.string (digB n)) ∧ Below w.heap.size w w' := by
  have t1 : decide (n < 10) = false := decide_eq_false (by omega)
  have t2 : decide ((n : Int) < 10) = false := decide_eq_false (by omega)
  have HA := Lib.hid hA; have HB := Lib.hid hB
  have hd := dig_more n h2 h
  have hz : ¬ 9223372036854775807 < (digB (n / 10)).size + (digB (n % 10)).size := by
    have := digB_size (n := n / 10) (by omega); have := digB_size (n := n % 10) (by omega); omega
  have HD := Lib.hid (digB_add h2 h)
  clear hA hB hd
  have e1 : ((n : Int)).tdiv 10 = ((n / 10 : Nat) : Int) := by rw [Int.tdiv_eq_ediv_of_nonneg (by omega)]; omega
  have e2 : ((n : Int)).tmod 10 = ((n % 10 : Nat) : Int) := by rw [Int.tmod_eq_emod_of_nonneg (by omega)]; omega
  go_enter Tryd.func87, Tryd.ntmps87
  go_wp2_with (first | (go_at_call 87; refine (HA.out _).mono ?_; rintro e w2 ⟨rfl, hb⟩; clear HA) | (go_at_call 87; refine (HB.out _).mono ?_; rintro e w3 ⟨rfl, hb2⟩; clear HB))
  go_ret
  exact ⟨by rw [HD.out]; rfl, hb.trans (hb2.mono hb.size)⟩
theorem rdig_any (n : Nat) (w : World) (h : n < 256) :
    Calls Tryd.prog 87 #[.int .i64 n] w fun e w' => e = .returned (.string (digB n)) ∧ Below w.heap.size w w' := by
  have one : ∀ m : Nat, m < 10 → ∀ w, Calls Tryd.prog 87 #[.int .i64 m] w fun e w' => e = .returned (.string (digB m)) ∧ Below w.heap.size w w' := fun m hm w => rdig_one m w hm
  have two : ∀ m : Nat, m < 100 → ∀ w, Calls Tryd.prog 87 #[.int .i64 m] w fun e w' => e = .returned (.string (digB m)) ∧ Below w.heap.size w w' := fun m hm w => by
    by_cases e : m < 10
    · exact one m e w
    · exact rdig_step m w (by omega) (by omega) (one _ (by omega)) (one _ (by omega))
  by_cases e : n < 100
  · exact two n e w
  · exact rdig_step n w (by omega) h (two _ (by omega)) (two _ (by omega))
end Go.Proofs.YtjifajigigflkaaDoor
namespace Go.Proofs.YtjifajigigflkaaDoor
set_option linter.unusedSimpArgs false
set_option linter.unusedVariables false
open Go Go.RowKit

/-- The text of the runs so far. -/
def txtL (l : List (Nat × Nat)) : List UInt8 := Lib.join (l.map runTxt) [44]
theorem txtL_snoc (l : List (Nat × Nat)) (p : Nat × Nat) : txtL (l ++ [p]) = (if l = [] then [] else txtL l ++ [44]) ++ runTxt p := by
  unfold txtL
  cases l with
  | nil => simp [Lib.join_one]
  | cons x r =>
    rw [if_neg (by simp), List.cons_append, List.map_cons, List.map_cons, Lib.join_cons, Lib.join_cons]
    simp [Lib.joinTail]
theorem printL_txt (l : List (Nat × Nat)) : printL l = if l = [] then [45] else txtL l := by
  cases l with
  | nil => rfl
  | cons x r => rw [if_neg (by simp)]; rfl
theorem itoa_some : ∀ n : Nat, n < 256 → Lib.itoa (n : Int) ≠ [] := by decide +kernel
theorem runTxt_some {p : Nat × Nat} (h : p.1 < 256) : runTxt p ≠ [] := by
  have := itoa_some p.1 h
  unfold runTxt
  split
  · simp
  · exact this
/-- What is known at number n. -/
structure PrI (N n : Nat) (last : Int) (pre : List (Nat × Nat)) (T : ByteArray) : Prop where
  lo : -1 ≤ last
  hi : last ≤ 255
  all : runsL N 257 (-1) = pre ++ runsL N 257 last
  len : pre.length ≤ n
  gap : ∀ i : Nat, last < i → i < n → N.testBit i = false
  ins : ∀ i : Nat, n ≤ i → (i : Int) ≤ last → 1 ≤ i ∧ N.testBit (i - 1) = true
  stop : ∀ i : Nat, (i : Int) = last + 1 → 1 ≤ i → N.testBit i = false
  txt : T.data.toList = txtL pre
  some_ : pre = [] ∨ T.data.toList ≠ []
  siz : T.size ≤ 44 * pre.length
theorem PrI.start (N : Nat) : PrI N 0 (-1) [] ⟨#[]⟩ :=
  ⟨by omega, by omega, rfl, by simp, fun i _ h => by omega, fun i _ h => by omega, fun i h1 h2 => by omega, rfl, .inl rfl, by simp [ByteArray.size]⟩
theorem PrI.skip0 {N n : Nat} {last : Int} {pre : List (Nat × Nat)} {T : ByteArray} (h : PrI N n last pre T) (hb : N.testBit n = false) : PrI N (n + 1) last pre T :=
  ⟨h.lo, h.hi, h.all, by have := h.len; omega, fun i h1 h2 => by
    by_cases e : i = n
    · rw [e]; exact hb
    · exact h.gap i h1 (by omega), fun i h1 h2 => h.ins i (by omega) h2, h.stop, h.txt, h.some_, h.siz⟩
theorem PrI.skip1 {N n : Nat} {last : Int} {pre : List (Nat × Nat)} {T : ByteArray} (h : PrI N n last pre T) (hn : 1 ≤ n) (hb : N.testBit n = true) (hb1 : N.testBit (n - 1) = true) : PrI N (n + 1) last pre T := by
  have hl : (n : Int) ≤ last := by
    rcases Int.lt_or_le last n with q | q
    · exfalso
      by_cases e : last = (n : Int) - 1
      · have := h.stop n (by omega) hn; rw [hb] at this; cases this
      · have := h.gap (n - 1) (by omega) (by omega); rw [hb1] at this; cases this
    · exact q
  exact ⟨h.lo, h.hi, h.all, by have := h.len; omega, fun i h1 h2 => by omega, fun i h1 h2 => h.ins i (by omega) h2, h.stop, h.txt, h.some_, h.siz⟩
theorem PrI.out {N n : Nat} {last : Int} {pre : List (Nat × Nat)} {T : ByteArray} (h : PrI N n last pre T) (hb1 : 1 ≤ n → N.testBit (n - 1) = false) : last < n := by
  rcases Int.lt_or_le last n with q | q
  · exact q
  · obtain ⟨h1, h2⟩ := h.ins n (Nat.le_refl _) q
    rw [hb1 h1] at h2; cases h2
set_option maxRecDepth 100000 in
theorem PrI.next {N n : Nat} {last : Int} {pre : List (Nat × Nat)} {T T' : ByteArray} (hN : N < 2 ^ 256) (h : PrI N n last pre T) (hn : n < 256) (hb : N.testBit n = true) (hb1 : 1 ≤ n → N.testBit (n - 1) = false)
    (hT : T'.data.toList = (if pre = [] then [] else T.data.toList ++ [44]) ++ runTxt (n, runE N 256 n)) : PrI N (n + 1) (runE N 256 n : Nat) (pre ++ [(n, runE N 256 n)]) T' := by
  obtain ⟨g1, g2, g3, g4⟩ := run_of hN hb
  have hl := h.out hb1
  have hnx : nextO N last = some n := next_eq_some hl hn hb fun i h1 h2 => h.gap i h1 h2
  have hr : runsL N 257 last = (n, runE N 256 n) :: runsL N 256 (runE N 256 n : Nat) := by simp only [runsL, hnx]
  have hrl : (runTxt (n, runE N 256 n)).length ≤ 43 := runTxt_len (p := (n, runE N 256 n)) (show n ≤ 255 by omega) (show runE N 256 n ≤ 255 by omega)
  have hrs : runTxt (n, runE N 256 n) ≠ [] := runTxt_some hn
  have hsz : ∀ B : ByteArray, B.size = B.data.toList.length := fun B => by rw [Array.length_toList]; rfl
  generalize runE N 256 n = e at *
  refine ⟨by omega, by omega, ?_, by have := h.len; simp; omega, fun i h1 h2 => by omega, fun i h1 h2 => ⟨by omega, g3 (i - 1) (by omega) (by omega)⟩, fun i h1 _ => ?_, ?_, .inr ?_, ?_⟩
  · rw [h.all, hr, runsL_fuel hN 256 257 e (by omega) (by omega) (by omega)]; simp
  · rw [show i = e + 1 by omega]; exact g4
  · rw [hT, txtL_snoc, h.txt]
  · rw [hT]; simp [hrs]
  · have h1 := h.siz
    have h2 := hsz T
    rw [hsz T', hT, List.length_append, List.length_append, List.length_singleton]
    split
    · simp only [List.length_nil]; omega
    · rw [List.length_append, List.length_singleton]; omega
theorem PrI.done {N n : Nat} {last : Int} {pre : List (Nat × Nat)} {T : ByteArray} (h : PrI N n last pre T) (hn : n = 256) : runsL N 257 (-1) = pre := by
  have hnx : nextO N last = none := next_eq_none fun i h1 h2 => h.gap i h1 (by omega)
  have hr : runsL N 257 last = [] := by simp only [runsL, hnx]
  rw [h.all, hr]; simp
theorem ba_ne2 {T : ByteArray} (h : ¬ T = ⟨#[]⟩) : T.toList.isEmpty = false := by
  rw [Lib.toList_data]
  rcases T with ⟨⟨l⟩⟩
  cases l with
  | nil => exact absurd rfl h
  | cons x l => rfl
theorem ba_ne {T : ByteArray} (h : ¬ T = ⟨#[]⟩) : (T == (⟨#[]⟩ : ByteArray)) = false := by
  rcases T with ⟨d⟩
  have hd : ¬ d = #[] := fun e => h (by rw [e])
  show (d == #[]) = false
  simpa using hd
def comB : ByteArray := ⟨#[44]⟩
def PrW (N : Nat) (w wr : World) : Prop := Blk wr w.heap.size (setA N) 25 ∧ Below w.heap.size w wr
theorem PrW.below {N : Nat} {w wr w' : World} (h : PrW N w wr) (hb : Below wr.heap.size wr w') : PrW N w w' := ⟨h.1.below hb h.1.lt, h.2.trans (hb.mono h.2.size)⟩
set_option maxRecDepth 100000 in
set_option maxHeartbeats 2000000 in
theorem rPrint_any (N : Nat) (w : World) (hN : N < 2 ^ 256) :
    Calls Tryd.prog 60 #[setV N] w fun e w' => e = .returned (.string ⟨(printL (runsL N 257 (-1))).toArray⟩) ∧ Below w.heap.size w w' := by
  obtain ⟨R, hR⟩ : ∃ R : ByteArray, R = ⟨(printL (runsL N 257 (-1))).toArray⟩ := ⟨_, rfl⟩
  have HR := Lib.hid hR
  rw [← hR]
  have HNL := Lib.hid hN
  clear hR hN
  go_enter Tryd.func60, Tryd.ntmps60
  simp only [setV]
  go_wp2_with fail
  go_loopw [3, 4, 5] (fun ts tn te wr => ∃ (n : Nat) (last : Int) (pre : List (Nat × Nat)) (T : ByteArray), n ≤ 256 ∧ tn = .int .i64 n ∧ ts = .string T ∧ Hid (PrI N n last pre T) ∧ PrW N w wr) (fun _ tn _ _ => 256 - (intOf tn).toNat)
  case atStart => exact ⟨0, -1, [], ⟨#[]⟩, by omega, rfl, rfl, PrI.start N, Blk.newW _ _ _, below_new1 _ _⟩
  case round =>
    obtain ⟨n, last, pre, T, hn, rfl, rfl, HP, hW⟩ := hrel
    have G := Lib.hid hW
    clear hW
    by_cases hlt : n ≤ 255
    · have t1 : decide (n ≤ 255) = true := decide_eq_true hlt
      obtain ⟨a0, a1, a2, a3, af⟩ := G.out.1.set4
      cases hb : N.testBit n with
      | false =>
        have HH : Hid (∀ w, Calls Tryd.prog 28 #[setV N, .int .i64 n] w fun e w' => e = .returned (.bool false) ∧ Below w.heap.size w w') := fun w => by have := rhas_in N n w (by omega); rwa [hb] at this
        have HB := Lib.hid hb
        clear hb
        go_wp2_with (first | (go_at_call 28; refine (HH.out _).mono ?_; rintro e w2 ⟨rfl, hb2⟩))
        exact ⟨⟨n + 1, last, pre, T, by omega, by simp, rfl, HP.out.skip0 HB.out, G.out.below hb2⟩, by simp [intOf]; omega⟩
      | true =>
        have HH : Hid (∀ w, Calls Tryd.prog 28 #[setV N, .int .i64 n] w fun e w' => e = .returned (.bool true) ∧ Below w.heap.size w w') := fun w => by have := rhas_in N n w (by omega); rwa [hb] at this
        have HB := Lib.hid hb
        clear hb
        by_cases hp : 1 ≤ n ∧ N.testBit (n - 1) = true
        · have HP1 := Lib.hid hp
          have HH1 : Hid (∀ w, Calls Tryd.prog 28 #[setV N, .int .i64 ((n : Int) - 1)] w fun e w' => e = .returned (.bool true) ∧ Below w.heap.size w w') := fun w => by
            have := rhas_in N (n - 1) w (by omega)
            rw [hp.2, show ((n - 1 : Nat) : Int) = (n : Int) - 1 by have := hp.1; omega] at this; exact this
          clear hp
          go_wp2_with (first | (go_at_call 28; refine (HH.out _).mono ?_; rintro e w2 ⟨rfl, hb2⟩; have G2 := Lib.hid (G.out.below hb2); clear hb2 a0 a1 a2 a3 af HH; obtain ⟨a0, a1, a2, a3, af⟩ := G2.out.1.set4) | (go_at_call 28; refine (HH1.out _).mono ?_; rintro e w3 ⟨rfl, hb3⟩))
          exact ⟨⟨n + 1, last, pre, T, by omega, by simp, rfl, HP.out.skip1 HP1.out.1 HB.out HP1.out.2, G2.out.below hb3⟩, by simp [intOf]; omega⟩
        · have hp1 : 1 ≤ n → N.testBit (n - 1) = false := fun h => by
            cases h2 : N.testBit (n - 1) with
            | false => rfl
            | true => exact absurd ⟨h, h2⟩ hp
          have HP1 := Lib.hid hp1
          have HH1 : Hid (∀ w, Calls Tryd.prog 28 #[setV N, .int .i64 ((n : Int) - 1)] w fun e w' => e = .returned (.bool false) ∧ Below w.heap.size w w') := fun w => by
            by_cases h0 : n = 0
            · rw [h0]; exact rhas_out N _ w (by omega)
            · have := rhas_in N (n - 1) w (by omega)
              rw [hp1 (by omega), show ((n - 1 : Nat) : Int) = (n : Int) - 1 by omega] at this; exact this
          obtain ⟨g1, g2, g3, g4⟩ := run_of HNL.out HB.out
          obtain ⟨q, hq⟩ : ∃ q, q = runE N 256 n := ⟨_, rfl⟩
          rw [← hq] at g1 g2 g3 g4
          have HQ := Lib.hid hq; have G3 := Lib.hid g3; have G4 := Lib.hid g4
          clear hp hp1 hq g3 g4
          go_upto_region 6 with (first | (go_at_call 28; refine (HH.out _).mono ?_; rintro e w2 ⟨rfl, hb2⟩; have G2 := Lib.hid (G.out.below hb2); clear hb2 a0 a1 a2 a3 af HH; obtain ⟨a0, a1, a2, a3, af⟩ := G2.out.1.set4) | (go_at_call 28; refine (HH1.out _).mono ?_; rintro e w3 ⟨rfl, hb3⟩; have GA := Lib.hid (G2.out.below hb3); clear hb3 a0 a1 a2 a3 af HH1 G2 G))
          go_wp2_with fail
          go_loopw [5] (fun te wx => ∃ m : Nat, n ≤ m ∧ m ≤ q ∧ te = .int .i64 m ∧ PrW N w wx) (fun te _ => q - (intOf te).toNat)
          case atStart => exact ⟨n, Nat.le_refl _, g1, rfl, GA.out⟩
          case round =>
            obtain ⟨m, hm1, hm2, rfl, hW⟩ := hrel
            have G := Lib.hid hW
            clear hW GA
            obtain ⟨a0, a1, a2, a3, af⟩ := G.out.1.set4
            by_cases hmq : m < q
            · have HM : Hid (∀ w, Calls Tryd.prog 28 #[setV N, .int .i64 ((m : Int) + 1)] w fun e w' => e = .returned (.bool true) ∧ Below w.heap.size w w') := fun w => by
                have := rhas_in N (m + 1) w (by omega)
                rw [G3.out (m + 1) (by omega) (by omega)] at this; exact this
              go_wp2_with (first | (go_at_call 28; refine (HM.out _).mono ?_; rintro e w4 ⟨rfl, hb4⟩))
              exact ⟨⟨m + 1, by omega, by omega, by simp, G.out.below hb4⟩, by simp [intOf]; omega⟩
            · have e : m = q := by omega
              subst e
              have HM : Hid (∀ w, Calls Tryd.prog 28 #[setV N, .int .i64 ((m : Int) + 1)] w fun e w' => e = .returned (.bool false) ∧ Below w.heap.size w w') := fun w => by
                by_cases h255 : m + 1 ≤ 255
                · have := rhas_in N (m + 1) w (by omega)
                  rw [G4.out] at this; exact this
                · exact rhas_out N _ w (by omega)
              have HDn : Hid (∀ w, Calls Tryd.prog 87 #[.int .i64 n] w fun e w' => e = .returned (.string (digB n)) ∧ Below w.heap.size w w') := fun w => rdig_any n w (by omega)
              have HDq : Hid (∀ w, Calls Tryd.prog 87 #[.int .i64 m] w fun e w' => e = .returned (.string (digB m)) ∧ Below w.heap.size w w') := fun w => rdig_any m w (by omega)
              have s1 : (digB n).size ≤ 3 := digB_size (by omega)
              have s2 : (digB m).size ≤ 3 := digB_size (by omega)
              have s3 : T.size ≤ 11264 := by have := HP.out.siz; have := HP.out.len; omega
              have KEY : Hid (∀ T' : ByteArray, T'.data.toList = (if pre = [] then [] else T.data.toList ++ [44]) ++ runTxt (n, m) → PrI N (n + 1) (m : Nat) (pre ++ [(n, m)]) T') := fun T' h => by
                have e := HQ.out
                rw [e] at h ⊢
                exact HP.out.next HNL.out (by omega) HB.out HP1.out h
              by_cases hpre : pre = []
              · have hT0 : T = ⟨#[]⟩ := by
                  apply ByteArray.ext
                  apply Array.ext'
                  rw [HP.out.txt, hpre]; rfl
                have HPE := Lib.hid hpre
                clear hpre
                subst hT0
                by_cases hnm : n < m
                · have t2 : decide (n < m) = true := decide_eq_true hnm
                  have HNM := Lib.hid hnm
                  clear hnm
                  go_wp2_with (first | (go_at_call 28; refine (HM.out _).mono ?_; rintro e w4 ⟨rfl, hb4⟩; have GB := Lib.hid (G.out.below hb4); clear hb4 a0 a1 a2 a3 af G HM) | (go_at_call 87; refine (HDn.out _).mono ?_; rintro e w5 ⟨rfl, hb5⟩; have GC := Lib.hid (GB.out.below hb5); clear hb5 GB HDn) | (go_at_call 87; refine (HDq.out _).mono ?_; rintro e w6 ⟨rfl, hb6⟩; have GD := Lib.hid (GC.out.below hb6); clear hb6 GC HDq))
                  refine ⟨⟨n + 1, (m : Int), pre ++ [(n, m)], _, by omega, by simp, rfl, KEY.out _ ?_, GD.out⟩, by simp [intOf]; omega⟩
                  have hnm := HNM.out
                  rw [if_pos HPE.out]
                  simp [digB, runTxt, hnm]
                · have t2 : decide (n < m) = false := decide_eq_false hnm
                  have HNM := Lib.hid hnm
                  clear hnm
                  go_wp2_with (first | (go_at_call 28; refine (HM.out _).mono ?_; rintro e w4 ⟨rfl, hb4⟩; have GB := Lib.hid (G.out.below hb4); clear hb4 a0 a1 a2 a3 af G HM) | (go_at_call 87; refine (HDn.out _).mono ?_; rintro e w5 ⟨rfl, hb5⟩; have GC := Lib.hid (GB.out.below hb5); clear hb5 GB HDn) | (go_at_call 87; refine (HDq.out _).mono ?_; rintro e w6 ⟨rfl, hb6⟩; have GD := Lib.hid (GC.out.below hb6); clear hb6 GC HDq))
                  refine ⟨⟨n + 1, (m : Int), pre ++ [(n, m)], _, by omega, by simp, rfl, KEY.out _ ?_, GC.out⟩, by simp [intOf]; omega⟩
                  have hnm := HNM.out
                  rw [if_pos HPE.out]
                  simp [digB, runTxt, hnm]
              · have hTn : ¬ T = ⟨#[]⟩ := fun e => by
                  rcases HP.out.some_ with h | h
                  · exact hpre h
                  · rw [e] at h; exact h rfl
                have hTn2 : (T == ⟨#[]⟩) = false := ba_ne hTn
                have hTn4 : T.toList.isEmpty = false := ba_ne2 hTn
                have hTn3 : (T != ⟨#[]⟩) = true := by rw [bne, hTn2]; rfl
                have HPE := Lib.hid hpre
                clear hpre
                by_cases hnm : n < m
                · have t2 : decide (n < m) = true := decide_eq_true hnm
                  have HNM := Lib.hid hnm
                  clear hnm
                  go_wp2_with (first | (go_at_call 28; refine (HM.out _).mono ?_; rintro e w4 ⟨rfl, hb4⟩; have GB := Lib.hid (G.out.below hb4); clear hb4 a0 a1 a2 a3 af G HM) | (go_at_call 87; refine (HDn.out _).mono ?_; rintro e w5 ⟨rfl, hb5⟩; have GC := Lib.hid (GB.out.below hb5); clear hb5 GB HDn) | (go_at_call 87; refine (HDq.out _).mono ?_; rintro e w6 ⟨rfl, hb6⟩; have GD := Lib.hid (GC.out.below hb6); clear hb6 GC HDq))
                  refine ⟨⟨n + 1, (m : Int), pre ++ [(n, m)], _, by omega, by simp, rfl, KEY.out _ ?_, GD.out⟩, by simp [intOf]; omega⟩
                  have hnm := HNM.out
                  rw [if_neg HPE.out]
                  simp [digB, runTxt, hnm]
                · have t2 : decide (n < m) = false := decide_eq_false hnm
                  have HNM := Lib.hid hnm
                  clear hnm
                  go_wp2_with (first | (go_at_call 28; refine (HM.out _).mono ?_; rintro e w4 ⟨rfl, hb4⟩; have GB := Lib.hid (G.out.below hb4); clear hb4 a0 a1 a2 a3 af G HM) | (go_at_call 87; refine (HDn.out _).mono ?_; rintro e w5 ⟨rfl, hb5⟩; have GC := Lib.hid (GB.out.below hb5); clear hb5 GB HDn) | (go_at_call 87; refine (HDq.out _).mono ?_; rintro e w6 ⟨rfl, hb6⟩; have GD := Lib.hid (GC.out.below hb6); clear hb6 GC HDq))
                  refine ⟨⟨n + 1, (m : Int), pre ++ [(n, m)], _, by omega, by simp, rfl, KEY.out _ ?_, GC.out⟩, by simp [intOf]; omega⟩
                  have hnm := HNM.out
                  rw [if_neg HPE.out]
                  simp [digB, runTxt, hnm]
    · have e : n = 256 := by omega
      have t1 : decide (n ≤ 255) = false := decide_eq_false hlt
      have HD := Lib.hid (HP.out.done e)
      clear e
      by_cases hpre : pre = []
      · have hT0 : T = ⟨#[]⟩ := by
          apply ByteArray.ext
          apply Array.ext'
          rw [HP.out.txt, hpre]; rfl
        have HRD : Hid (R = ⟨#[45]⟩) := by rw [Hid, HR.out, HD.out, hpre]; rfl
        clear hpre HD
        subst hT0
        go_wp2_with fail
        go_ret
        exact ⟨congrArg (fun x => Ending.returned (.string x)) HRD.out.symm, G.out.2⟩
      · have hTn : ¬ T = ⟨#[]⟩ := fun e => by
          rcases HP.out.some_ with h | h
          · exact hpre h
          · rw [e] at h; exact h rfl
        have hTn2 : (T == ⟨#[]⟩) = false := ba_ne hTn
        have hTn4 : T.toList.isEmpty = false := ba_ne2 hTn
        have HRD : Hid (R = T) := by
          rw [Hid, HR.out, HD.out, printL_txt, if_neg hpre, ← HP.out.txt]
        clear hpre HD
        go_wp2_with fail
        go_ret
        exact ⟨congrArg (fun x => Ending.returned (.string x)) HRD.out.symm, G.out.2⟩
end Go.Proofs.YtjifajigigflkaaDoor
namespace Go.Proofs.YtjifajigigflkaaDoor
set_option linter.unusedSimpArgs false
set_option linter.unusedVariables false
open Go Go.RowKit

/-! ### Texts that are cut at a byte -/
theorem index_hit (c : UInt8) : ∀ (x r : List UInt8), c ∉ x → Lib.index (x ++ c :: r) [c] = x.length
  | [], r, _ => by simp [Lib.index]
  | b :: x, r, h => by
    have hb : ¬ c = b := fun e => h (by simp [e])
    have ih := index_hit c x r (fun m => h (by simp [m]))
    have h1 : ((x.length : Int) == -1) = false := by rw [beq_eq_false_iff_ne]; omega
    simp [Lib.index, hb, ih, h1]
theorem index_miss (c : UInt8) : ∀ (l : List UInt8), c ∉ l → Lib.index l [c] = -1
  | [], _ => by simp [Lib.index]
  | b :: l, h => by
    have hb : ¬ c = b := fun e => h (by simp [e])
    have ih := index_miss c l (fun m => h (by simp [m]))
    simp [Lib.index, hb, ih]
theorem cut_hit {c : UInt8} {x : List UInt8} (r : List UInt8) (h : c ∉ x) : cutAt c (x ++ c :: r) = (x, r, true) := by
  have hi := index_hit c x r h
  unfold cutAt Lib.cut
  rw [hi, if_pos (by omega)]
  simp
theorem cut_miss {c : UInt8} {l : List UInt8} (h : c ∉ l) : cutAt c l = (l, [], false) := by
  unfold cutAt Lib.cut
  rw [index_miss c l h, if_neg (by decide)]
theorem first_of {c : UInt8} : ∀ {l : List UInt8}, c ∈ l → ∃ x r, l = x ++ c :: r ∧ c ∉ x
  | [], h => by cases h
  | b :: l, h => by
    by_cases e : c = b
    · subst e; exact ⟨[], l, rfl, by simp⟩
    · obtain ⟨x, r, hx, hn⟩ := first_of (l := l) (by simpa [e] using h)
      exact ⟨b :: x, r, by rw [hx]; rfl, by simp [e, hn]⟩
theorem cut_true {c : UInt8} {t : List UInt8} (h : (cutAt c t).2.2 = true) : t = (cutAt c t).1 ++ c :: (cutAt c t).2.1 := by
  by_cases hc : c ∈ t
  · obtain ⟨x, r, rfl, hn⟩ := first_of hc
    rw [cut_hit r hn]
  · rw [cut_miss hc] at h; cases h
theorem cut_false {c : UInt8} {t : List UInt8} (h : (cutAt c t).2.2 = false) : (cutAt c t).1 = t := by
  by_cases hc : c ∈ t
  · obtain ⟨x, r, rfl, hn⟩ := first_of hc
    rw [cut_hit r hn] at h; cases h
  · rw [cut_miss hc]

/-! ### Numbers and runs -/
theorem itoa_digs : ∀ n : Nat, n < 256 → ((Lib.itoa (n : Int)).all fun c => decide (48 ≤ c.toNat) && decide (c.toNat ≤ 57)) = true := by decide +kernel
theorem numO_itoa : ∀ n : Nat, n < 256 → numO (Lib.itoa (n : Int)) = some n := by decide +kernel
theorem itoa_no {n : Nat} (h : n < 256) {c : UInt8} (hc : c.toNat < 48) : c ∉ Lib.itoa (n : Int) := fun hm => by
  have := List.all_eq_true.1 (itoa_digs n h) c hm
  simp at this; omega
theorem numO_sound {t : List UInt8} {a : Nat} (h : numO t = some a) : t = Lib.itoa (a : Int) ∧ a < 256 := by
  unfold numO at h
  split at h
  · split at h
    · rename_i v hv hc
      cases h
      rw [show ((v.toNat : Nat) : Int) = v by omega]
      exact ⟨hc.2.2.symm, by omega⟩
    · cases h
  · cases h
theorem runTxt_no {p : Nat × Nat} (h1 : p.1 < 256) (h2 : p.2 < 256) : (44 : UInt8) ∉ runTxt p := by
  have a1 : (44 : UInt8) ∉ Lib.itoa (p.1 : Int) := itoa_no h1 (by decide)
  have a2 : (44 : UInt8) ∉ Lib.itoa (p.2 : Int) := itoa_no h2 (by decide)
  unfold runTxt
  split
  · simp [a1, a2]
  · exact a1
theorem runO_txt {a b : Nat} (h : a ≤ b) (hb : b < 256) : runO (runTxt (a, b)) = some (a, b) := by
  have ha : (45 : UInt8) ∉ Lib.itoa (a : Int) := itoa_no (by omega) (by decide)
  unfold runTxt runO
  by_cases hab : a < b
  · simp only [if_pos hab]
    rw [cut_hit _ ha]
    simp only [numO_itoa a (by omega), numO_itoa b hb]
    simp [hab]
  · obtain rfl : a = b := by omega
    simp only [if_neg hab]
    rw [cut_miss ha]
    simp only [numO_itoa a hb]
    simp
theorem runO_sound {t : List UInt8} {a b : Nat} (h : runO t = some (a, b)) : t = runTxt (a, b) := by
  unfold runO at h
  cases h1 : numO (cutAt 45 t).1 with
  | none => rw [h1] at h; cases h
  | some x =>
    rw [h1] at h
    simp only [] at h
    have e1 := (numO_sound h1).1
    split at h
    · rename_i hf
      cases h
      rw [cut_false hf] at e1
      unfold runTxt
      rw [if_neg (by simp)]; exact e1
    · rename_i hf
      cases h2 : numO (cutAt 45 t).2.1 with
      | none => rw [h2] at h; cases h
      | some y =>
        rw [h2] at h
        simp only [] at h
        split at h
        · rename_i hxy
          cases h
          have e2 := (numO_sound h2).1
          have := cut_true (c := 45) (t := t) (by simpa using hf)
          rw [e1, e2] at this
          unfold runTxt
          rw [if_pos hxy]; exact this
        · cases h

/-! ### Lists of runs -/
/-- Runs in order, from lo on, with a number between each two. -/
def SepL : Nat → List (Nat × Nat) → Prop
  | _, [] => True
  | lo, p :: l => lo ≤ p.1 ∧ p.1 ≤ p.2 ∧ p.2 < 256 ∧ SepL (p.2 + 2) l
theorem SepL.all : ∀ {lo : Nat} {l : List (Nat × Nat)}, SepL lo l → ∀ q ∈ l, lo ≤ q.1 ∧ q.1 ≤ q.2 ∧ q.2 < 256
  | _, [], _, q, h => by cases h
  | lo, p :: l, ⟨h1, h2, h3, h4⟩, q, h => by
    rcases List.mem_cons.1 h with rfl | h
    · exact ⟨h1, h2, h3⟩
    · have := h4.all q h; exact ⟨by omega, this.2⟩
def insAll (N : Nat) : List (Nat × Nat) → Nat
  | [] => N
  | p :: l => insAll (ins N p.1 (p.2 - p.1 + 1)) l
theorem insAll_bit : ∀ {lo : Nat} {l : List (Nat × Nat)}, SepL lo l → ∀ N i, (insAll N l).testBit i = true ↔ N.testBit i = true ∨ ∃ p ∈ l, p.1 ≤ i ∧ i ≤ p.2
  | _, [], _, N, i => by simp [insAll]
  | lo, p :: l, ⟨h1, h2, h3, h4⟩, N, i => by
    unfold insAll
    rw [insAll_bit h4, testBit_ins]
    simp only [Bool.or_eq_true, Bool.and_eq_true, decide_eq_true_eq, List.mem_cons, exists_eq_or_imp]
    constructor
    · rintro ((h | h) | h)
      · exact .inl h
      · exact .inr (.inl ⟨h.1, by omega⟩)
      · exact .inr (.inr h)
    · rintro (h | h | h)
      · exact .inl (.inl h)
      · exact .inl (.inr ⟨h.1, by omega⟩)
      · exact .inr h
theorem insAll_lt : ∀ {lo : Nat} {l : List (Nat × Nat)}, SepL lo l → ∀ {N : Nat}, N < 2 ^ 256 → insAll N l < 2 ^ 256
  | _, [], _, N, h => h
  | lo, p :: l, ⟨h1, h2, h3, h4⟩, N, h => insAll_lt h4 (ins_lt h _ (by omega))
theorem runsL_sep {N : Nat} (hN : N < 2 ^ 256) : ∀ (f : Nat) (last : Int) (lo : Nat), (∀ i : Nat, last < i → i < lo → N.testBit i = false) → SepL lo (runsL N f last)
  | 0, _, _, _ => trivial
  | f + 1, last, lo, h => by
    unfold runsL
    cases hn : nextO N last with
    | none => trivial
    | some a =>
      obtain ⟨a1, a2, a3, _⟩ := of_next_some hn
      obtain ⟨g1, g2, g3, g4⟩ := run_of hN a3
      have hlo : lo ≤ a := by
        by_cases e : a < lo
        · rw [h a a1 e] at a3; cases a3
        · omega
      exact ⟨hlo, g1, g2, runsL_sep hN f _ _ fun i i1 i2 => by
        have i2' : i < runE N 256 a + 2 := i2
        rw [show i = runE N 256 a + 1 by omega]; exact g4⟩
theorem runsL_bits {N : Nat} (hN : N < 2 ^ 256) : ∀ (f : Nat) (last : Int), -1 ≤ last → 255 - last < f → ∀ i : Nat, last < i → (N.testBit i = true ↔ ∃ p ∈ runsL N f last, p.1 ≤ i ∧ i ≤ p.2)
  | 0, last, h0, hf, i, hi => by
    have : N.testBit i = false := testBit_big hN (by omega)
    simp [runsL, this]
  | f + 1, last, h0, hf, i, hi => by
    unfold runsL
    cases hn : nextO N last with
    | none =>
      have : N.testBit i = false := by
        by_cases h6 : i < 256
        · cases hb : N.testBit i with
          | false => rfl
          | true =>
            exfalso
            unfold nextO at hn
            split at hn
            · omega
            · rw [of_nx_none hn i (by omega) (by omega)] at hb; cases hb
        · exact testBit_big hN (by omega)
      simp [this]
    | some a =>
      obtain ⟨a1, a2, a3, a4⟩ := of_next_some hn
      obtain ⟨g1, g2, g3, g4⟩ := run_of hN a3
      simp only [List.mem_cons, exists_eq_or_imp]
      have hs := runsL_sep hN f (runE N 256 a : Nat) (runE N 256 a + 2) fun j i1 i2 => by rw [show j = runE N 256 a + 1 by omega]; exact g4
      by_cases c1 : i < a
      · rw [a4 i hi c1]
        constructor
        · intro h; cases h
        · rintro (h | ⟨q, hq, h1, h2⟩)
          · omega
          · have := (hs.all q hq).1; omega
      · by_cases c2 : i ≤ runE N 256 a
        · rw [g3 i (by omega) c2]
          exact ⟨fun _ => .inl ⟨by omega, c2⟩, fun _ => rfl⟩
        · rw [runsL_bits hN f (runE N 256 a : Nat) (by omega) (by omega) i (by omega)]
          constructor
          · exact fun h => .inr h
          · rintro (h | h)
            · exact absurd h.2 c2
            · exact h
theorem insAll_runs {N : Nat} (hN : N < 2 ^ 256) : insAll 0 (runsL N 257 (-1)) = N := by
  apply Nat.eq_of_testBit_eq
  intro i
  have hs := runsL_sep hN 257 (-1) 0 fun j _ h => by omega
  rw [Bool.eq_iff_iff, insAll_bit hs, ← runsL_bits hN 257 (-1) (by omega) (by omega) i (by omega)]
  simp
theorem runsL_insAll {M : Nat} (hM : M < 2 ^ 256) : ∀ (l : List (Nat × Nat)) (lo : Nat) (last : Int) (f : Nat), SepL lo l → last < lo → -1 ≤ last → 255 - last < f → (∀ i : Nat, last < i → (M.testBit i = true ↔ ∃ p ∈ l, p.1 ≤ i ∧ i ≤ p.2)) → runsL M f last = l
  | l, lo, last, 0, hs, hl, h0, hf, hb => by
    cases l with
    | nil => rfl
    | cons p l => have := (hs.all p (by simp)); omega
  | [], lo, last, f + 1, hs, hl, h0, hf, hb => by
    unfold runsL
    rw [next_eq_none fun i h1 h2 => by
      have := hb i h1
      simpa using this]
  | p :: l, lo, last, f + 1, ⟨h1, h2, h3, h4⟩, hl, h0, hf, hb => by
    obtain ⟨a, b⟩ := p
    dsimp only at h1 h2 h3 h4
    have hba : M.testBit a = true := (hb a (by omega)).2 ⟨(a, b), by simp, by simp, h2⟩
    have hn : nextO M last = some a := next_eq_some (by omega) (by omega) hba fun i i1 i2 => by
      cases hx : M.testBit i with
      | false => rfl
      | true =>
        obtain ⟨q, hq, q1, q2⟩ := (hb i i1).1 hx
        rcases List.mem_cons.1 hq with rfl | hq
        · simp at q1; omega
        · have := (h4.all q hq).1; omega
    obtain ⟨g1, g2, g3, g4⟩ := run_of hM hba
    have he : runE M 256 a = b := by
      by_cases c1 : runE M 256 a < b
      · rw [(hb (runE M 256 a + 1) (by omega)).2 ⟨(a, b), by simp, by simp; omega, by simp; omega⟩] at g4; cases g4
      · by_cases c2 : b < runE M 256 a
        · obtain ⟨q, hq, q1, q2⟩ := (hb (b + 1) (by omega)).1 (g3 (b + 1) (by omega) (by omega))
          rcases List.mem_cons.1 hq with rfl | hq
          · simp at q2; omega
          · have := (h4.all q hq).1; omega
        · omega
    unfold runsL
    rw [hn]
    simp only []
    rw [he, runsL_insAll hM l (b + 2) b f h4 (by omega) (by omega) (by omega) fun i hi => by
      rw [hb i (by omega)]
      simp only [List.mem_cons, exists_eq_or_imp]
      exact ⟨fun h => h.resolve_left (by omega), fun h => .inr h⟩]

/-! ### Printing and parsing -/
theorem txtL_one (p : Nat × Nat) : txtL [p] = runTxt p := by simp [txtL, Lib.join_one]
theorem txtL_two (p q : Nat × Nat) (l : List (Nat × Nat)) : txtL (p :: q :: l) = runTxt p ++ 44 :: txtL (q :: l) := by
  simp [txtL, Lib.join_cons, Lib.joinTail]
theorem parseL_txt : ∀ (l : List (Nat × Nat)) (p : Nat × Nat) (f lo N : Nat), SepL lo (p :: l) → (txtL (p :: l)).length < f → parseL f (txtL (p :: l)) lo N = some (insAll N (p :: l))
  | _, _, 0, _, _, _, h => by omega
  | [], p, f + 1, lo, N, ⟨h1, h2, h3, _⟩, hf => by
    obtain ⟨a, b⟩ := p
    dsimp only at h1 h2 h3
    rw [txtL_one]
    unfold parseL
    rw [cut_miss (runTxt_no (by show a < 256; omega) h3)]
    simp only [runO_txt h2 h3]
    rw [if_neg (by omega)]
    simp [insAll]
  | q :: l, p, f + 1, lo, N, ⟨h1, h2, h3, h4⟩, hf => by
    obtain ⟨a, b⟩ := p
    dsimp only at h1 h2 h3 h4
    rw [txtL_two] at hf ⊢
    unfold parseL
    rw [cut_hit _ (runTxt_no (by show a < 256; omega) h3)]
    simp only [runO_txt h2 h3]
    rw [if_neg (by omega), if_pos trivial, parseL_txt l q f (b + 2) _ h4 (by simp at hf; omega)]
    simp [insAll]
theorem parseL_sound : ∀ (f : Nat) (t : List UInt8) (lo N M : Nat), parseL f t lo N = some M → ∃ p l, t = txtL (p :: l) ∧ SepL lo (p :: l) ∧ M = insAll N (p :: l)
  | 0, _, _, _, _, h => by cases h
  | f + 1, t, lo, N, M, h => by
    unfold parseL at h
    cases hr : runO (cutAt 44 t).1 with
    | none => rw [hr] at h; cases h
    | some q =>
      obtain ⟨a, b⟩ := q
      rw [hr] at h
      simp only [] at h
      have hs := runO_sound hr
      have hl := runO_le hr
      split at h
      · cases h
      · rename_i hlo
        split at h
        · rename_i hm
          obtain ⟨p, l, e, hsep, hM⟩ := parseL_sound f _ _ _ _ h
          refine ⟨(a, b), p :: l, ?_, ⟨by show lo ≤ a; omega, hl.1, hl.2, hsep⟩, by rw [hM]; rfl⟩
          rw [txtL_two, ← e, ← hs]
          exact cut_true hm
        · rename_i hm
          cases h
          refine ⟨(a, b), [], ?_, ⟨by show lo ≤ a; omega, hl.1, hl.2, trivial⟩, rfl⟩
          rw [txtL_one, ← hs]
          exact (cut_false (by simpa using hm)).symm
theorem txtL_ne {p : Nat × Nat} {l : List (Nat × Nat)} (h : p.1 < 256) : txtL (p :: l) ≠ [45] := fun e => by
  obtain ⟨c, hc⟩ := List.exists_mem_of_ne_nil _ (itoa_some p.1 h)
  have hd := List.all_eq_true.1 (itoa_digs p.1 h) c hc
  have h1 : c ∈ runTxt p := by
    unfold runTxt
    split
    · simp [hc]
    · exact hc
  have h2 : c ∈ txtL (p :: l) := by
    cases l with
    | nil => rw [txtL_one]; exact h1
    | cons q l => rw [txtL_two]; simp [h1]
  rw [e] at h2
  obtain rfl : c = 45 := by simpa using h2
  revert hd; decide
theorem parse_print {N : Nat} (hN : N < 2 ^ 256) : parseO (printL (runsL N 257 (-1))) = some N := by
  have h1 := insAll_runs hN
  have h2 := runsL_sep hN 257 (-1) 0 fun j _ h => by omega
  cases hr : runsL N 257 (-1) with
  | nil =>
    rw [hr] at h1
    rw [show N = 0 from h1.symm]; rfl
  | cons p l =>
    rw [hr] at h1 h2
    rw [printL_txt, if_neg (by simp)]
    unfold parseO
    rw [if_neg (txtL_ne (by have := h2.2.1; have := h2.2.2.1; omega)), parseL_txt l p _ 0 0 h2 (by omega), h1]
theorem print_parse {t : List UInt8} {N : Nat} (h : parseO t = some N) : N < 2 ^ 256 ∧ printL (runsL N 257 (-1)) = t := by
  unfold parseO at h
  split at h
  · rename_i ht
    cases h
    refine ⟨by decide, ?_⟩
    rw [ht]
    have : runsL 0 257 (-1) = [] := by
      unfold runsL
      rw [next_eq_none fun i _ _ => Nat.zero_testBit i]
    rw [this]; rfl
  · obtain ⟨p, l, e, hs, rfl⟩ := parseL_sound _ _ _ _ _ h
    have hlt := insAll_lt hs (N := 0) (by decide)
    refine ⟨hlt, ?_⟩
    rw [runsL_insAll hlt (p :: l) 0 (-1) 257 hs (by omega) (by omega) (by omega) fun i _ => by rw [insAll_bit hs]; simp]
    rw [printL_txt, if_neg (by simp)]; exact e.symm

/-! ### What the specification's Parse goes through -/
/-- The numbers of a run that has come to its end. -/
def pend (N : Nat) (n first : Int) : Nat := if 0 ≤ n then ins N (if first < 0 then n else first).toNat (n + 1 - (if first < 0 then n else first)).toNat else N
def pdig (c : UInt8) : Bool := decide (48 ≤ c.toNat) && decide (c.toNat ≤ 57)
def pnum (c : UInt8) (n : Int) : Int := 10 * max n 0 + ((c.toNat : Int) - 48)
def pscan : List UInt8 → Nat → Int → Int → Option Nat
  | [], N, n, first => some (pend N n first)
  | c :: l, N, n, first => if pdig c then (if 255 < pnum c n then none else pscan l N (pnum c n) first) else if c = 45 then pscan l N (-1) n else if 0 ≤ n then pscan l (pend N n first) (-1) (-1) else pscan l N n first
def rparseO (t : List UInt8) : Option Nat := match pscan t 0 (-1) (-1) with
  | none => none
  | some N => if printL (runsL N 257 (-1)) = t then some N else none
def dnum : List UInt8 → Int → Option Int
  | [], n => some n
  | c :: l, n => if 255 < pnum c n then none else dnum l (pnum c n)
theorem dnum_itoa : ∀ n : Nat, n < 256 → dnum (Lib.itoa (n : Int)) (-1) = some (n : Int) := by decide +kernel
theorem pscan_dig (N : Nat) (first a : Int) (r : List UInt8) : ∀ (l : List UInt8) (n : Int), l.all pdig = true → dnum l n = some a → pscan (l ++ r) N n first = pscan r N a first
  | [], n, _, h => by
    obtain rfl := Option.some.inj h
    rfl
  | c :: l, n, hd, h => by
    rw [List.all_cons, Bool.and_eq_true] at hd
    rw [List.cons_append]
    conv => lhs; unfold pscan
    rw [if_pos hd.1]
    unfold dnum at h
    split at h
    · cases h
    · rename_i h2
      rw [if_neg h2]
      exact pscan_dig N first a r l _ hd.2 h
theorem pscan_itoa {a : Nat} (ha : a < 256) (N : Nat) (first : Int) (r : List UInt8) : pscan (Lib.itoa (a : Int) ++ r) N (-1) first = pscan r N a first :=
  pscan_dig N first a r _ _ (itoa_digs a ha) (dnum_itoa a ha)
theorem pscan_run {a b : Nat} (h : a ≤ b) (hb : b < 256) (N : Nat) (r : List UInt8) : ∃ n first : Int, 0 ≤ n ∧ pend N n first = ins N a (b - a + 1) ∧ pscan (runTxt (a, b) ++ r) N (-1) (-1) = pscan r N n first := by
  unfold runTxt
  by_cases hab : a < b
  · refine ⟨b, a, by omega, ?_, ?_⟩
    · unfold pend
      rw [if_pos (by omega), if_neg (by omega)]
      congr 1
      omega
    · simp only [if_pos hab]
      rw [List.append_assoc, pscan_itoa (by omega), List.cons_append]
      conv => lhs; unfold pscan
      rw [if_neg (by decide), if_pos rfl, pscan_itoa hb]
  · obtain rfl : a = b := by omega
    refine ⟨a, -1, by omega, ?_, ?_⟩
    · unfold pend
      rw [if_pos (by omega), if_pos (by decide)]
      congr 1
      omega
    · simp only [if_neg hab]
      rw [pscan_itoa hb]
theorem pscan_txt : ∀ (l : List (Nat × Nat)) (p : Nat × Nat) (lo N : Nat), SepL lo (p :: l) → pscan (txtL (p :: l)) N (-1) (-1) = some (insAll N (p :: l))
  | [], p, lo, N, ⟨h1, h2, h3, _⟩ => by
    obtain ⟨a, b⟩ := p
    obtain ⟨n, first, hn, hp, hs⟩ := pscan_run h2 h3 N []
    rw [txtL_one, ← List.append_nil (runTxt (a, b)), hs]
    unfold pscan
    rw [hp]; rfl
  | q :: l, p, lo, N, ⟨h1, h2, h3, h4⟩ => by
    obtain ⟨a, b⟩ := p
    obtain ⟨n, first, hn, hp, hs⟩ := pscan_run h2 h3 N (44 :: txtL (q :: l))
    rw [txtL_two, hs]
    conv => lhs; unfold pscan
    rw [if_neg (by decide), if_neg (by decide), if_pos hn, hp, pscan_txt l q _ _ h4]
    rfl
theorem pscan_print {N : Nat} (hN : N < 2 ^ 256) : pscan (printL (runsL N 257 (-1))) 0 (-1) (-1) = some N := by
  have h1 := insAll_runs hN
  have h2 := runsL_sep hN 257 (-1) 0 fun j _ h => by omega
  cases hr : runsL N 257 (-1) with
  | nil =>
    rw [hr] at h1
    rw [show N = 0 from h1.symm]; rfl
  | cons p l =>
    rw [hr] at h1 h2
    rw [printL_txt, if_neg (by simp), pscan_txt l p 0 0 h2, h1]
theorem pscan_lt : ∀ (l : List UInt8) (N : Nat) (n first : Int) (M : Nat), N < 2 ^ 256 → n ≤ 255 → -1 ≤ n → first ≤ 255 → -1 ≤ first → pscan l N n first = some M → M < 2 ^ 256
  | [], N, n, first, M, hN, hn, hn0, hf, hf0, h => by
    obtain rfl := Option.some.inj h
    unfold pend
    split
    · split
      · exact ins_lt hN _ (by omega)
      · by_cases c : first ≤ n + 1
        · exact ins_lt hN _ (by omega)
        · rw [show (n + 1 - first).toNat = 0 by omega]; exact hN
    · exact hN
  | c :: l, N, n, first, M, hN, hn, hn0, hf, hf0, h => by
    have hp : pend N n first < 2 ^ 256 := pscan_lt [] N n first _ hN hn hn0 hf hf0 rfl
    unfold pscan at h
    split at h
    · rename_i hd
      split at h
      · cases h
      · have h0 : 0 ≤ pnum c n := by
          unfold pdig at hd
          simp only [Bool.and_eq_true, decide_eq_true_eq] at hd
          unfold pnum; omega
        exact pscan_lt l _ _ _ _ hN (by omega) (by omega) hf hf0 h
    · rename_i hd
      split at h
      · exact pscan_lt l _ _ _ _ hN (by omega) (by omega) hn hn0 h
      · split at h
        · exact pscan_lt l _ _ _ _ hp (by omega) (by omega) (by omega) (by omega) h
        · exact pscan_lt l _ _ _ _ hN hn hn0 hf hf0 h
theorem rparse_same (t : List UInt8) : rparseO t = parseO t := by
  unfold rparseO
  cases hp : parseO t with
  | some N =>
    obtain ⟨hN, ht⟩ := print_parse hp
    have := pscan_print hN
    rw [ht] at this
    rw [this]
    simp only []
    rw [if_pos ht]
  | none =>
    cases hs : pscan t 0 (-1) (-1) with
    | none => rfl
    | some N =>
      simp only []
      split
      · rename_i ht
        have hN : N < 2 ^ 256 := pscan_lt t 0 (-1) (-1) N (by decide) (by decide) (by decide) (by decide) (by decide) hs
        have := parse_print hN
        rw [ht, hp] at this; cases this
      · rfl
end Go.Proofs.YtjifajigigflkaaDoor
namespace Go.Proofs.YtjifajigigflkaaDoor
set_option linter.unusedSimpArgs false
set_option linter.unusedVariables false
open Go Go.RowKit

/-- What the specification's Parse has gone through when it stands at k. -/
def PsAt (all : List UInt8) (k N : Nat) (n first : Int) : Prop := (k ≤ all.length → pscan all 0 (-1) (-1) = pscan (all.drop k) N n first) ∧ (all.length < k → pscan all 0 (-1) (-1) = some N)
def PaW (N : Nat) (w wr : World) : Prop := Blk wr w.heap.size (setA 0) 25 ∧ Blk wr (w.heap.size + 1) (setA N) 25 ∧ Below w.heap.size w wr
theorem PaW.below {N : Nat} {w wr w' : World} (h : PaW N w wr) (hb : Below wr.heap.size wr w') : PaW N w w' := ⟨h.1.below hb h.1.lt, h.2.1.below hb h.2.1.lt, h.2.2.trans (hb.mono h.2.2.size)⟩
theorem PaW.put {N : Nat} {w wr : World} (h : PaW N w wr) (M : Nat) : PaW M w ((((wr.setCell ⟨w.heap.size + 1, 0, none⟩ (.int .u64 ↑(word M 0))).setCell ⟨w.heap.size + 1, 1, none⟩ (.int .u64 ↑(word M 1))).setCell ⟨w.heap.size + 1, 2, none⟩ (.int .u64 ↑(word M 2))).setCell ⟨w.heap.size + 1, 3, none⟩ (.int .u64 ↑(word M 3))) :=
  ⟨h.1.other4 (by omega) _ _ _ _, h.2.1.putS M, below_put4 h.2.2 (Nat.le_succ _) _ _ _ _⟩
theorem PsAt.next {all : List UInt8} {k N N' : Nat} {n first n' first' : Int} (hk : k < all.length) (h : PsAt all k N n first) (hs : pscan (all.drop k) N n first = pscan (all.drop (k + 1)) N' n' first') : PsAt all (k + 1) N' n' first' :=
  ⟨fun _ => (h.1 (by omega)).trans hs, fun h2 => by omega⟩
theorem PsAt.bad {all : List UInt8} {k N : Nat} {n first : Int} (hk : k < all.length) (h : PsAt all k N n first) (hs : pscan (all.drop k) N n first = none) : pscan all 0 (-1) (-1) = none := (h.1 (by omega)).trans hs
theorem PsAt.last {all : List UInt8} {k N : Nat} {n first n' first' : Int} (hk : k = all.length) (h : PsAt all k N n first) : PsAt all (k + 1) (pend N n first) n' first' :=
  ⟨fun h2 => by omega, fun _ => by rw [h.1 (by omega), hk, List.drop_length]; rfl⟩
theorem ins_lt2 {N f a : Nat} (hN : N < 2 ^ 256) (ha : a < 256) (hf : f ≤ 255) : ins N f (a + 1 - f) < 2 ^ 256 := ins_lt hN _ (by omega)
set_option maxRecDepth 100000 in
set_option maxHeartbeats 2000000 in
theorem rParse_any (s : ByteArray) (w : World) (hs : s.size ≤ 2000) :
    Calls Tryd.prog 59 #[.string s] w fun e w' => e = .returned (parseV (rparseO s.data.toList)) ∧ Below w.heap.size w w' := by
  have hlen : s.data.toList.length = s.size := by rw [Array.length_toList]; rfl
  have HLEN := Lib.hid hlen
  clear hlen
  go_enter Tryd.func59, Tryd.ntmps59
  go_wp2_with fail
  go_loopw [5, 6, 7] (fun tn tf ti wr => ∃ (k N : Nat) (n first : Int), k ≤ s.size + 1 ∧ ti = .int .i64 k ∧ tn = .int .i64 n ∧ tf = .int .i64 first ∧ -1 ≤ n ∧ n ≤ 255 ∧ -1 ≤ first ∧ first ≤ 255 ∧ Hid (PsAt s.data.toList k N n first) ∧ PaW N w wr ∧ Hid (N < 2 ^ 256)) (fun _ _ ti _ => s.size + 1 - (intOf ti).toNat)
  case atStart => exact ⟨0, 0, -1, -1, by omega, rfl, rfl, rfl, by omega, by omega, by omega, by omega, ⟨fun _ => rfl, fun h => by omega⟩, ⟨(Blk.newS _ _).alloc _, Blk.newS1 _ _ _, below_new2 _ _ _⟩, show 0 < 2 ^ 256 by decide⟩
  case round =>
    obtain ⟨k, N, n, first, hk, rfl, rfl, rfl, hn0, hn1, hf0, hf1, HP, hW, HNL⟩ := hrel
    have G := Lib.hid hW
    clear hW
    by_cases hlt : k < s.size
    · have hkl : k < s.data.toList.length := by rw [HLEN.out]; exact hlt
      have HKL := Lib.hid hkl
      have hdrop : s.data.toList.drop k = s[k] :: s.data.toList.drop (k + 1) := (List.getElem_cons_drop hkl).symm
      obtain ⟨c, hc⟩ : ∃ c, c = s[k] := ⟨_, rfl⟩
      have HD : Hid (s.data.toList.drop k = c :: s.data.toList.drop (k + 1)) := by rw [Hid, hc]; exact hdrop
      have hcs : s[k].toNat = c.toNat := by rw [hc]
      have h45 : (c = 45) ↔ c.toNat = 45 := ⟨fun e => by rw [e]; rfl, fun e => UInt8.toNat_inj.1 e⟩
      clear hdrop hc hkl
      have t1 : decide (k ≤ s.size) = true := decide_eq_true (by omega)
      have t2 : decide (k < s.size) = true := decide_eq_true hlt
      by_cases hd : 48 ≤ c.toNat ∧ c.toNat ≤ 57
      · obtain ⟨d1, d2⟩ := hd
        have hpd : pdig c = true := by unfold pdig; simp [d1, d2]
        obtain ⟨m, hm⟩ : ∃ m, m = max n 0 := ⟨_, rfl⟩
        have hmx : max n 0 = m := hm.symm
        have hm0 : 0 ≤ m := by omega
        have hm1 : m ≤ 255 := by omega
        have hpn : pnum c n = 10 * m + ((c.toNat : Int) - 48) := by rw [hm]; rfl
        clear hm h45
        by_cases hv : 255 < 10 * m + ((c.toNat : Int) - 48)
        · have HBAD : Hid (rparseO s.data.toList = none) := by
            unfold Hid rparseO
            rw [HP.out.bad HKL.out (by rw [HD.out]; unfold pscan; rw [if_pos hpd, hpn, if_pos hv])]
          clear hpd hpn
          obtain ⟨a0, a1, a2, a3, af⟩ := G.out.1.set4
          go_upto_region 7 with (fail)
          go_wp2_with fail
          refine named (fun U => Blk U w.heap.size (setA 0) 25 ∧ Below w.heap.size w U) ⟨?_, below_put4 G.out.2.2 (Nat.le_refl _) _ _ _ _⟩ ?_
          · rw [setA_zero]; exact G.out.1.put4 rfl _ _ _ _
          rintro U ⟨hU, hbU⟩
          obtain ⟨q0, q1, q2, q3, _⟩ := hU.set4
          exact bodyPost_ret (v := .tuple #[setV 0, .int .i64 3]) (by simp [results, Tryd.results59, go_sem, q0, q1, q2, q3, setV]) rfl ⟨by rw [HBAD.out]; rfl, hbU⟩
        · have HNX : Hid (PsAt s.data.toList (k + 1) N (10 * m + ((c.toNat : Int) - 48)) first) := HP.out.next HKL.out (by
            rw [HD.out]
            conv => lhs; unfold pscan
            rw [if_pos hpd, hpn, if_neg hv])
          clear hpd hpn
          go_upto_region 7 with (fail)
          go_wp2_with fail
          exact ⟨⟨k + 1, N, 10 * m + ((c.toNat : Int) - 48), first, by omega, by simp, by first | rfl | exact congrArg (fun (x : Nat) => Value.int IntKind.i64 (10 * m + ((x : Int) - 48))) hcs, rfl, by omega, by omega, hf0, hf1, HNX.out, G.out, HNL⟩, by simp [intOf]; omega⟩
      · have hpd : pdig c = false := by
          unfold pdig
          rw [Bool.and_eq_false_iff, decide_eq_false_iff_not, decide_eq_false_iff_not]
          omega
        by_cases hm : c.toNat = 45
        · have HNX : Hid (PsAt s.data.toList (k + 1) N (-1) n) := HP.out.next HKL.out (by
            rw [HD.out]
            conv => lhs; unfold pscan
            rw [if_neg (by rw [hpd]; decide), if_pos (h45.2 hm)])
          rw [hm] at hcs
          clear hpd hm hd h45
          go_upto_region 11 with (fail)
          go_wp2_with fail
          exact ⟨⟨k + 1, N, -1, n, by omega, by simp, rfl, rfl, by omega, by omega, hn0, hn1, HNX.out, G.out, HNL⟩, by simp [intOf]; omega⟩
        · have hm' : ((c.toNat : Int) == 45) = false := by rw [beq_eq_false_iff_ne]; omega
          have hm2 : ¬ c = 45 := fun e => hm (h45.1 e)
          by_cases hn : 0 ≤ n
          · have HNX : Hid (PsAt s.data.toList (k + 1) (pend N n first) (-1) (-1)) := HP.out.next HKL.out (by
              rw [HD.out]
              conv => lhs; unfold pscan
              rw [if_neg (by rw [hpd]; decide), if_neg hm2, if_pos hn])
            obtain ⟨a, rfl⟩ := Int.eq_ofNat_of_zero_le hn
            obtain ⟨f, hf, hfp, hfl⟩ : ∃ f : Nat, (first < 0 ∧ f = a ∨ 0 ≤ first ∧ first = f) ∧ Hid (pend N a first = ins N f (a + 1 - f)) ∧ f ≤ 255 := by
              by_cases hs0 : first < 0
              · refine ⟨a, .inl ⟨hs0, rfl⟩, ?_, by omega⟩
                unfold Hid pend
                rw [if_pos (by omega), if_pos hs0, Int.toNat_natCast]
                congr 1; omega
              · obtain ⟨f, rfl⟩ := Int.eq_ofNat_of_zero_le (show 0 ≤ first by omega)
                refine ⟨f, .inr ⟨by omega, rfl⟩, ?_, by omega⟩
                unfold Hid pend
                rw [if_pos (by omega), if_neg hs0, Int.toNat_natCast]
                congr 1; omega
            rw [Hid, hfp.out] at HNX
            replace HNX := Lib.hid HNX
            clear hfp hpd h45 hm2 hm
            have hd' : c.toNat < 48 ∨ 57 < c.toNat := by omega
            clear hd
            rcases hd' with hd | hd
            all_goals
              rcases hf with ⟨hf, hfe⟩ | ⟨hf, hfe⟩
              · obtain rfl : a = f := hfe.symm
                go_upto_region 13 with (fail)
                go_wp2_with fail
                go_loopw [8] (fun tj wv => ∃ j : Nat, a ≤ j ∧ (j ≤ a + 1 ∨ j = a) ∧ tj = .int .i64 j ∧ PaW (ins N a (j - a)) w wv) (fun tj _ => a + 1 - (intOf tj).toNat)
                case atStart => exact ⟨a, Nat.le_refl _, .inr rfl, rfl, by rw [Nat.sub_self]; exact G.out⟩
                case round =>
                  obtain ⟨j, hj1, hj2, rfl, hW⟩ := hrel
                  have G2 := Lib.hid hW
                  clear hW
                  obtain ⟨b0, b1, b2, b3, bf⟩ := G2.out.2.1.set4
                  by_cases hja : j ≤ a
                  · have HI : Hid (ins N a (j - a) ||| 2 ^ j = ins N a (j + 1 - a)) := by
                      rw [Hid, show j + 1 - a = (j - a) + 1 by omega]; simp only [ins]; rw [show a + (j - a) = j by omega]
                    have HWi : Hid (∀ w, Calls Tryd.prog 66 #[setV (ins N a (j - a)), .int .i64 j] w fun e w' => e = .returned (setV (ins N a (j + 1 - a))) ∧ Below w.heap.size w w') := fun w => by
                      have := rwith_in (ins N a (j - a)) j w (by omega)
                      rwa [HI.out] at this
                    obtain ⟨M, hM⟩ : ∃ M, M = ins N a (j - a) := ⟨_, rfl⟩
                    obtain ⟨M2, hM2⟩ : ∃ M2, M2 = ins N a (j + 1 - a) := ⟨_, rfl⟩
                    rw [← hM] at b0 b1 b2 b3 HWi G2
                    rw [← hM2] at HWi
                    have HM2 := Lib.hid hM2
                    clear hM hM2 HI
                    go_wp2_with (first | (go_at_call 66; refine (HWi.out _).mono ?_; rintro e w5 ⟨rfl, hb5⟩; simp only [setV]; have G3 := Lib.hid (G2.out.below hb5); clear hb5 b0 b1 b2 b3 bf HWi; obtain ⟨b0, b1, b2, b3, bf⟩ := G3.out.2.1.set4))
                    exact ⟨⟨j + 1, by omega, .inl (by omega), by simp, by rw [← HM2.out]; exact G3.out.put M2⟩, by simp [intOf]; omega⟩
                  · have HJ : Hid (j - a = a + 1 - a) := by unfold Hid; omega
                    go_wp2_with fail
                    exact ⟨⟨k + 1, ins N a (a + 1 - a), -1, -1, by omega, by simp, rfl, rfl, by omega, by omega, by omega, by omega, HNX.out, by rw [← HJ.out]; exact G2.out, ins_lt2 HNL.out (by omega) (by omega)⟩, by simp [intOf]; omega⟩
              · subst hfe
                go_upto_region 13 with (fail)
                go_wp2_with fail
                go_loopw [8] (fun tj wv => ∃ j : Nat, f ≤ j ∧ (j ≤ a + 1 ∨ j = f) ∧ tj = .int .i64 j ∧ PaW (ins N f (j - f)) w wv) (fun tj _ => a + 1 - (intOf tj).toNat)
                case atStart => exact ⟨f, Nat.le_refl _, .inr rfl, rfl, by rw [Nat.sub_self]; exact G.out⟩
                case round =>
                  obtain ⟨j, hj1, hj2, rfl, hW⟩ := hrel
                  have G2 := Lib.hid hW
                  clear hW
                  obtain ⟨b0, b1, b2, b3, bf⟩ := G2.out.2.1.set4
                  by_cases hja : j ≤ a
                  · have HI : Hid (ins N f (j - f) ||| 2 ^ j = ins N f (j + 1 - f)) := by
                      rw [Hid, show j + 1 - f = (j - f) + 1 by omega]; simp only [ins]; rw [show f + (j - f) = j by omega]
                    have HWi : Hid (∀ w, Calls Tryd.prog 66 #[setV (ins N f (j - f)), .int .i64 j] w fun e w' => e = .returned (setV (ins N f (j + 1 - f))) ∧ Below w.heap.size w w') := fun w => by
                      have := rwith_in (ins N f (j - f)) j w (by omega)
                      rwa [HI.out] at this
                    obtain ⟨M, hM⟩ : ∃ M, M = ins N f (j - f) := ⟨_, rfl⟩
                    obtain ⟨M2, hM2⟩ : ∃ M2, M2 = ins N f (j + 1 - f) := ⟨_, rfl⟩
                    rw [← hM] at b0 b1 b2 b3 HWi G2
                    rw [← hM2] at HWi
                    have HM2 := Lib.hid hM2
                    clear hM hM2 HI
                    go_wp2_with (first | (go_at_call 66; refine (HWi.out _).mono ?_; rintro e w5 ⟨rfl, hb5⟩; simp only [setV]; have G3 := Lib.hid (G2.out.below hb5); clear hb5 b0 b1 b2 b3 bf HWi; obtain ⟨b0, b1, b2, b3, bf⟩ := G3.out.2.1.set4))
                    exact ⟨⟨j + 1, by omega, .inl (by omega), by simp, by rw [← HM2.out]; exact G3.out.put M2⟩, by simp [intOf]; omega⟩
                  · have HJ : Hid (j - f = a + 1 - f) := by unfold Hid; omega
                    go_wp2_with fail
                    exact ⟨⟨k + 1, ins N f (a + 1 - f), -1, -1, by omega, by simp, rfl, rfl, by omega, by omega, by omega, by omega, HNX.out, by rw [← HJ.out]; exact G2.out, ins_lt2 HNL.out (by omega) (by omega)⟩, by simp [intOf]; omega⟩
          · have HNX : Hid (PsAt s.data.toList (k + 1) N n first) := HP.out.next HKL.out (by
              rw [HD.out]
              conv => lhs; unfold pscan
              rw [if_neg (by rw [hpd]; decide), if_neg hm2, if_neg hn])
            clear hpd h45 hm2 hm
            have hd' : c.toNat < 48 ∨ 57 < c.toNat := by omega
            clear hd
            rcases hd' with hd | hd
            all_goals
              go_upto_region 10 with (fail)
              go_wp2_with fail
              exact ⟨⟨k + 1, N, n, first, by omega, by simp, rfl, rfl, hn0, hn1, hf0, hf1, HNX.out, G.out, HNL⟩, by simp [intOf]; omega⟩
    · by_cases hke : k = s.size
      · have HKE := Lib.hid hke
        have t1 : decide (k ≤ s.size) = true := decide_eq_true (by omega)
        have t2 : decide (k < s.size) = false := decide_eq_false hlt
        clear hke
        by_cases hn : 0 ≤ n
        · have HNX : Hid (PsAt s.data.toList (k + 1) (pend N n first) (-1) (-1)) := HP.out.last (by rw [HKE.out, HLEN.out])
          obtain ⟨a, rfl⟩ := Int.eq_ofNat_of_zero_le hn
          obtain ⟨f, hf, hfp, hfl⟩ : ∃ f : Nat, (first < 0 ∧ f = a ∨ 0 ≤ first ∧ first = f) ∧ Hid (pend N a first = ins N f (a + 1 - f)) ∧ f ≤ 255 := by
            by_cases hs0 : first < 0
            · refine ⟨a, .inl ⟨hs0, rfl⟩, ?_, by omega⟩
              unfold Hid pend
              rw [if_pos (by omega), if_pos hs0, Int.toNat_natCast]
              congr 1; omega
            · obtain ⟨f, rfl⟩ := Int.eq_ofNat_of_zero_le (show 0 ≤ first by omega)
              refine ⟨f, .inr ⟨by omega, rfl⟩, ?_, by omega⟩
              unfold Hid pend
              rw [if_pos (by omega), if_neg hs0, Int.toNat_natCast]
              congr 1; omega
          rw [Hid, hfp.out] at HNX
          replace HNX := Lib.hid HNX
          clear hfp hlt
          rcases hf with ⟨hf, hfe⟩ | ⟨hf, hfe⟩
          · obtain rfl : a = f := hfe.symm
            go_upto_region 13 with (fail)
            go_wp2_with fail
            go_loopw [8] (fun tj wv => ∃ j : Nat, a ≤ j ∧ (j ≤ a + 1 ∨ j = a) ∧ tj = .int .i64 j ∧ PaW (ins N a (j - a)) w wv) (fun tj _ => a + 1 - (intOf tj).toNat)
            case atStart => exact ⟨a, Nat.le_refl _, .inr rfl, rfl, by rw [Nat.sub_self]; exact G.out⟩
            case round =>
              obtain ⟨j, hj1, hj2, rfl, hW⟩ := hrel
              have G2 := Lib.hid hW
              clear hW
              obtain ⟨b0, b1, b2, b3, bf⟩ := G2.out.2.1.set4
              by_cases hja : j ≤ a
              · have HI : Hid (ins N a (j - a) ||| 2 ^ j = ins N a (j + 1 - a)) := by
                  rw [Hid, show j + 1 - a = (j - a) + 1 by omega]; simp only [ins]; rw [show a + (j - a) = j by omega]
                have HWi : Hid (∀ w, Calls Tryd.prog 66 #[setV (ins N a (j - a)), .int .i64 j] w fun e w' => e = .returned (setV (ins N a (j + 1 - a))) ∧ Below w.heap.size w w') := fun w => by
                  have := rwith_in (ins N a (j - a)) j w (by omega)
                  rwa [HI.out] at this
                obtain ⟨M, hM⟩ : ∃ M, M = ins N a (j - a) := ⟨_, rfl⟩
                obtain ⟨M2, hM2⟩ : ∃ M2, M2 = ins N a (j + 1 - a) := ⟨_, rfl⟩
                rw [← hM] at b0 b1 b2 b3 HWi G2
                rw [← hM2] at HWi
                have HM2 := Lib.hid hM2
                clear hM hM2 HI
                go_wp2_with (first | (go_at_call 66; refine (HWi.out _).mono ?_; rintro e w5 ⟨rfl, hb5⟩; simp only [setV]; have G3 := Lib.hid (G2.out.below hb5); clear hb5 b0 b1 b2 b3 bf HWi; obtain ⟨b0, b1, b2, b3, bf⟩ := G3.out.2.1.set4))
                exact ⟨⟨j + 1, by omega, .inl (by omega), by simp, by rw [← HM2.out]; exact G3.out.put M2⟩, by simp [intOf]; omega⟩
              · have HJ : Hid (j - a = a + 1 - a) := by unfold Hid; omega
                go_wp2_with fail
                exact ⟨⟨k + 1, ins N a (a + 1 - a), -1, -1, by have := HKE.out; omega, by simp, rfl, rfl, by omega, by omega, by omega, by omega, HNX.out, by rw [← HJ.out]; exact G2.out, ins_lt2 HNL.out (by omega) (by omega)⟩, by simp [intOf]; have := HKE.out; omega⟩
          · subst hfe
            go_upto_region 13 with (fail)
            go_wp2_with fail
            go_loopw [8] (fun tj wv => ∃ j : Nat, f ≤ j ∧ (j ≤ a + 1 ∨ j = f) ∧ tj = .int .i64 j ∧ PaW (ins N f (j - f)) w wv) (fun tj _ => a + 1 - (intOf tj).toNat)
            case atStart => exact ⟨f, Nat.le_refl _, .inr rfl, rfl, by rw [Nat.sub_self]; exact G.out⟩
            case round =>
              obtain ⟨j, hj1, hj2, rfl, hW⟩ := hrel
              have G2 := Lib.hid hW
              clear hW
              obtain ⟨b0, b1, b2, b3, bf⟩ := G2.out.2.1.set4
              by_cases hja : j ≤ a
              · have HI : Hid (ins N f (j - f) ||| 2 ^ j = ins N f (j + 1 - f)) := by
                  rw [Hid, show j + 1 - f = (j - f) + 1 by omega]; simp only [ins]; rw [show f + (j - f) = j by omega]
                have HWi : Hid (∀ w, Calls Tryd.prog 66 #[setV (ins N f (j - f)), .int .i64 j] w fun e w' => e = .returned (setV (ins N f (j + 1 - f))) ∧ Below w.heap.size w w') := fun w => by
                  have := rwith_in (ins N f (j - f)) j w (by omega)
                  rwa [HI.out] at this
                obtain ⟨M, hM⟩ : ∃ M, M = ins N f (j - f) := ⟨_, rfl⟩
                obtain ⟨M2, hM2⟩ : ∃ M2, M2 = ins N f (j + 1 - f) := ⟨_, rfl⟩
                rw [← hM] at b0 b1 b2 b3 HWi G2
                rw [← hM2] at HWi
                have HM2 := Lib.hid hM2
                clear hM hM2 HI
                go_wp2_with (first | (go_at_call 66; refine (HWi.out _).mono ?_; rintro e w5 ⟨rfl, hb5⟩; simp only [setV]; have G3 := Lib.hid (G2.out.below hb5); clear hb5 b0 b1 b2 b3 bf HWi; obtain ⟨b0, b1, b2, b3, bf⟩ := G3.out.2.1.set4))
                exact ⟨⟨j + 1, by omega, .inl (by omega), by simp, by rw [← HM2.out]; exact G3.out.put M2⟩, by simp [intOf]; omega⟩
              · have HJ : Hid (j - f = a + 1 - f) := by unfold Hid; omega
                go_wp2_with fail
                exact ⟨⟨k + 1, ins N f (a + 1 - f), -1, -1, by have := HKE.out; omega, by simp, rfl, rfl, by omega, by omega, by omega, by omega, HNX.out, by rw [← HJ.out]; exact G2.out, ins_lt2 HNL.out (by omega) (by omega)⟩, by simp [intOf]; have := HKE.out; omega⟩
        · have HNX : Hid (PsAt s.data.toList (k + 1) N n first) := by
            have := HP.out.last (n' := n) (first' := first) (by rw [HKE.out, HLEN.out])
            unfold pend at this
            rwa [if_neg hn] at this
          clear hlt
          go_wp2_with fail
          exact ⟨⟨k + 1, N, n, first, by have := HKE.out; omega, by simp, rfl, rfl, hn0, hn1, hf0, hf1, HNX.out, G.out, HNL⟩, by simp [intOf]; have := HKE.out; omega⟩
      · have t1 : decide (k ≤ s.size) = false := decide_eq_false (by omega)
        have HSC : Hid (pscan s.data.toList 0 (-1) (-1) = some N) := HP.out.2 (by rw [HLEN.out]; omega)
        have HPr : Hid (∀ w, Calls Tryd.prog 60 #[setV N] w fun e w' => e = .returned (.string ⟨(printL (runsL N 257 (-1))).toArray⟩) ∧ Below w.heap.size w w') := fun w => rPrint_any N w HNL.out
        obtain ⟨R, hR⟩ : ∃ R : ByteArray, R = ⟨(printL (runsL N 257 (-1))).toArray⟩ := ⟨_, rfl⟩
        rw [← hR] at HPr
        have HRR := Lib.hid hR
        clear hR hlt hke
        obtain ⟨a0, a1, a2, a3, af⟩ := G.out.2.1.set4
        by_cases he : R = s
        · have HB : Hid (rparseO s.data.toList = some N) := by
            unfold Hid rparseO
            rw [HSC.out]
            simp only []
            rw [if_pos (by rw [← he, HRR.out])]
          subst he
          go_wp2_with (first | (go_at_call 60; refine (HPr.out _).mono ?_; rintro e w5 ⟨rfl, hb5⟩; have G3 := Lib.hid (G.out.below hb5); clear hb5 a0 a1 a2 a3 af HPr; obtain ⟨a0, a1, a2, a3, af⟩ := G3.out.2.1.set4; obtain ⟨b0, b1, b2, b3, bf⟩ := G3.out.1.set4))
          refine named (fun U => Blk U w.heap.size (setA N) 25 ∧ Below w.heap.size w U) ⟨G3.out.1.put4 rfl _ _ _ _, below_put4 G3.out.2.2 (Nat.le_refl _) _ _ _ _⟩ ?_
          rintro U ⟨hU, hbU⟩
          obtain ⟨q0, q1, q2, q3, _⟩ := hU.set4
          exact bodyPost_ret (v := .tuple #[setV N, .int .i64 0]) (by simp [results, Tryd.results59, go_sem, q0, q1, q2, q3, setV]) rfl ⟨by rw [HB.out]; rfl, hbU⟩
        · have HB : Hid (rparseO s.data.toList = none) := by
            unfold Hid rparseO
            rw [HSC.out]
            simp only []
            rw [if_neg (fun h => he (by rw [HRR.out, h]))]
          have hne' : ¬ R.toList = s.toList := fun e => by
            rw [ByteArray.toList_eq, ByteArray.toList_eq] at e
            exact he (by cases R; cases s; simp only [ByteArray.mk.injEq]; exact Array.toList_inj.1 e)
          have hq : (R.toList == s.toList) = false := by rw [beq_eq_false_iff_ne]; exact hne'
          go_wp2_with (first | (go_at_call 60; refine (HPr.out _).mono ?_; rintro e w5 ⟨rfl, hb5⟩; have G3 := Lib.hid (G.out.below hb5); clear hb5 a0 a1 a2 a3 af HPr; obtain ⟨a0, a1, a2, a3, af⟩ := G3.out.2.1.set4; obtain ⟨b0, b1, b2, b3, bf⟩ := G3.out.1.set4))
          refine named (fun U => Blk U w.heap.size (setA 0) 25 ∧ Below w.heap.size w U) ⟨?_, below_put4 G3.out.2.2 (Nat.le_refl _) _ _ _ _⟩ ?_
          · rw [setA_zero]; exact G3.out.1.put4 rfl _ _ _ _
          rintro U ⟨hU, hbU⟩
          obtain ⟨q0, q1, q2, q3, _⟩ := hU.set4
          exact bodyPost_ret (v := .tuple #[setV 0, .int .i64 3]) (by simp [results, Tryd.results59, go_sem, q0, q1, q2, q3, setV]) rfl ⟨by rw [HB.out]; rfl, hbU⟩
end Go.Proofs.YtjifajigigflkaaDoor
namespace Go.Proofs.YtjifajigigflkaaDoor
set_option linter.unusedSimpArgs false
set_option linter.unusedVariables false
open Go Go.RowKit
attribute [local go_sem] equalIn_words setV
/-- What parsing a text answers, and what printing that answers. -/
def TxIs (s : ByteArray) (M : Nat) (st : Int) : Prop :=
  (∀ w, Gl w → Calls Tryd.prog 58 #[.string s] w fun e w' => e = .returned (.tuple #[setV M, .int .i64 st]) ∧ Below w.heap.size w w') ∧
  (∀ w, Calls Tryd.prog 59 #[.string s] w fun e w' => e = .returned (.tuple #[setV M, .int .i64 st]) ∧ Below w.heap.size w w')
theorem tx_of (s : ByteArray) (hs : s.size ≤ 2000) : TxIs s 0 3 ∨ ∃ M, TxIs s M 0 ∧ ∀ w, Gl w → Calls Tryd.prog 57 #[setV M] w fun e w' => e = .returned (.string s) ∧ Below w.heap.size w w' := by
  have h1 := fun w hg => parse_any s w hg (by omega)
  have h2 := fun w => rParse_any s w hs
  rw [rparse_same] at h2
  cases hp : parseO s.data.toList with
  | none => rw [hp] at h1 h2; exact .inl ⟨h1, h2⟩
  | some M =>
    rw [hp] at h1 h2
    obtain ⟨hM, ht⟩ := print_parse hp
    refine .inr ⟨M, ⟨h1, h2⟩, fun w hg => ?_⟩
    have := print_any M w hg hM
    rwa [ht] at this
theorem printL_len {N : Nat} (hN : N < 2 ^ 256) : (printL (runsL N 257 (-1))).length ≤ 11308 := by
  have h1 := runsL_len N 257 (-1)
  have h2 := runsL_mem hN 257 (-1)
  rw [printL_txt]
  split
  · simp
  · unfold txtL
    have := join_len 43 ((runsL N 257 (-1)).map runTxt) [44] fun x hx => by
      obtain ⟨p, hp, rfl⟩ := List.mem_map.1 hx
      have := h2 p hp
      exact runTxt_len (by omega) (by omega)
    rw [List.length_map, List.length_singleton] at this
    omega
set_option maxRecDepth 100000 in
set_option maxHeartbeats 1000000 in
theorem bitsTexts_any (hsane : SaneOk) (N : Nat) (s : ByteArray) (w : World) (hg : Gl w) (hN : N < 2 ^ 256) :
    Calls Tryd.prog 8 #[setV N, .string s] w fun e w' => e = .returned (.bool true) ∧ Below w.heap.size w w' := by
  have HS : Hid SaneOk := hsane
  have HG := Lib.hid hg
  obtain ⟨P, hP⟩ : ∃ P : ByteArray, P = ⟨(printL (runsL N 257 (-1))).toArray⟩ := ⟨_, rfl⟩
  have HPr : Hid (∀ w, Gl w → Calls Tryd.prog 57 #[setV N] w fun e w' => e = .returned (.string P) ∧ Below w.heap.size w w') := fun w hg => by rw [hP]; exact print_any N w hg hN
  have HRp : Hid (∀ w, Calls Tryd.prog 60 #[setV N] w fun e w' => e = .returned (.string P) ∧ Below w.heap.size w w') := fun w => by rw [hP]; exact rPrint_any N w hN
  have HPb : Hid (∀ w, Gl w → Calls Tryd.prog 58 #[.string P] w fun e w' => e = .returned (.tuple #[setV N, .int .i64 0]) ∧ Below w.heap.size w w') := fun w hg => by
    have := parse_any P w hg (by rw [hP]; show (printL (runsL N 257 (-1))).toArray.size < _; rw [List.size_toArray]; have := printL_len hN; omega)
    rwa [hP, show (ByteArray.mk (printL (runsL N 257 (-1))).toArray).data.toList = printL (runsL N 257 (-1)) from rfl, parse_print hN, ← hP] at this
  clear hP
  by_cases hs : s.size ≤ 2000
  · have HTX := Lib.hid (tx_of s hs)
    have hs' : decide (2000 < s.size) = false := decide_eq_false (by omega)
    clear hg hsane hN
    obtain ⟨M, st, HPa, HRa, HM⟩ : ∃ (M : Nat) (st : Int), Hid (∀ w, Gl w → Calls Tryd.prog 58 #[.string s] w fun e w' => e = .returned (.tuple #[setV M, .int .i64 st]) ∧ Below w.heap.size w w') ∧
        Hid (∀ w, Calls Tryd.prog 59 #[.string s] w fun e w' => e = .returned (.tuple #[setV M, .int .i64 st]) ∧ Below w.heap.size w w') ∧
        Hid (st = 3 ∨ st = 0 ∧ ∀ w, Gl w → Calls Tryd.prog 57 #[setV M] w fun e w' => e = .returned (.string s) ∧ Below w.heap.size w w') := by
      rcases HTX.out with h | ⟨M, h, h2⟩
      · exact ⟨0, 3, h.1, h.2, .inl rfl⟩
      · exact ⟨M, 0, h.1, h.2, .inr ⟨rfl, h2⟩⟩
    clear HTX
    go_enter Tryd.func8, Tryd.ntmps8
    simp only [setV]
    go_upto_region 3 with (first | (go_at_call 16; refine (HS.out _ (HG.out.below (below_new1 _ _))).mono ?_; rintro e w2 ⟨rfl, hb⟩))
    refine named (fun V => Gl V ∧ Below w.heap.size w V ∧ Blk V w.heap.size (setA N) 25) ⟨(HG.out.below (below_new1 _ _)).below hb, (below_new1 _ _).trans (hb.mono (by simp)), (Blk.newW _ _ _).below hb (by simp)⟩ ?_
    clear hb HS HG
    rintro W0 ⟨FG, FB, K2⟩
    replace FG := Lib.hid FG; replace FB := Lib.hid FB; replace K2 := Lib.hid K2
    generalize hb2 : w.heap.size = b2 at K2 ⊢
    have L2 := Lib.hid hb2
    clear hb2
    obtain ⟨c0, c1, c2, c3, cf⟩ := K2.out.set4
    go_upto_region 6 with (first | (go_at_call 57; refine (HPr.out _ FG.out).mono ?_; rintro e w2 ⟨rfl, hb⟩))
    have FB2 := Lib.hid (FB.out.trans (hb.mono FB.out.size))
    have FG2 := Lib.hid (FG.out.below hb)
    have K22 := Lib.hid (K2.out.below hb K2.out.lt)
    clear FB FG K2 hb c0 c1 c2 c3 cf HPr
    go_upto_region 7 with (first | (go_at_call 58; refine (HPa.out _ FG2.out).mono ?_; rintro e w3 ⟨rfl, hb⟩; simp only [setV]))
    refine named (fun V => Gl V ∧ Below w.heap.size w V ∧ Blk V b2 (setA N) 25 ∧ Blk V w3.heap.size (setA M) 25) ⟨(FG2.out.below hb).below (below_new1 _ _), (FB2.out.trans (hb.mono FB2.out.size)).alloc (FB2.out.trans (hb.mono FB2.out.size)).size _, (K22.out.below hb K22.out.lt).alloc _, Blk.newW _ _ _⟩ ?_
    clear hb FB2 FG2 K22 HPa
    rintro W1 ⟨FG, FB, K2, K6⟩
    replace FG := Lib.hid FG; replace FB := Lib.hid FB; replace K2 := Lib.hid K2; replace K6 := Lib.hid K6
    generalize w3.heap.size = b6 at K6 ⊢
    go_upto_region 8 with (first | (go_at_call 59; refine (HRa.out _).mono ?_; rintro e w3 ⟨rfl, hb⟩; simp only [setV]))
    refine named (fun V => Gl V ∧ Below w.heap.size w V ∧ Blk V b2 (setA N) 25 ∧ Blk V b6 (setA M) 25 ∧ Blk V w3.heap.size (setA M) 25) ⟨(FG.out.below hb).below (below_new1 _ _), (FB.out.trans (hb.mono FB.out.size)).alloc (FB.out.trans (hb.mono FB.out.size)).size _, (K2.out.below hb K2.out.lt).alloc _, (K6.out.below hb K6.out.lt).alloc _, Blk.newW _ _ _⟩ ?_
    clear hb FB FG K2 K6 HRa
    rintro W2 ⟨FG, FB, K2, K6, K8⟩
    replace FG := Lib.hid FG; replace FB := Lib.hid FB; replace K2 := Lib.hid K2; replace K6 := Lib.hid K6; replace K8 := Lib.hid K8
    generalize w3.heap.size = b8 at K8 ⊢
    go_upto_region 9 with (first | (go_at_call 58; refine (HPb.out _ FG.out).mono ?_; rintro e w3 ⟨rfl, hb⟩; simp only [setV]))
    refine named (fun V => Gl V ∧ Below w.heap.size w V ∧ Blk V b2 (setA N) 25 ∧ Blk V b6 (setA M) 25 ∧ Blk V b8 (setA M) 25 ∧ Blk V w3.heap.size (setA N) 25) ⟨(FG.out.below hb).below (below_new1 _ _), (FB.out.trans (hb.mono FB.out.size)).alloc (FB.out.trans (hb.mono FB.out.size)).size _, (K2.out.below hb K2.out.lt).alloc _, (K6.out.below hb K6.out.lt).alloc _, (K8.out.below hb K8.out.lt).alloc _, Blk.newW _ _ _⟩ ?_
    clear hb FB FG K2 K6 K8 HPb
    rintro W3 ⟨FG, FB, K2, K6, K8, K10⟩
    replace FG := Lib.hid FG; replace FB := Lib.hid FB; replace K2 := Lib.hid K2; replace K6 := Lib.hid K6; replace K8 := Lib.hid K8; replace K10 := Lib.hid K10
    generalize w3.heap.size = b10 at K10 ⊢
    have z1 : eqS M M = true := eqS_refl M
    have z2 : eqS N N = true := eqS_refl N
    obtain ⟨c0, c1, c2, c3, cf⟩ := K2.out.set4
    rcases HM.out with hst | ⟨hst, hpr⟩
    · subst hst
      clear HM
      go_wp2_with (first | (go_at_call 60; refine (HRp.out _).mono ?_; rintro e w4 ⟨rfl, hb⟩; have FB2 := Lib.hid (FB.out.trans (hb.mono FB.out.size)); have k2 := K2.out.below hb K2.out.lt; have k6 := K6.out.below hb K6.out.lt; have k8 := K8.out.below hb K8.out.lt; have k10 := K10.out.below hb K10.out.lt; clear hb c0 c1 c2 c3 cf K2 K6 K8 K10 FB FG HRp; obtain ⟨c0, c1, c2, c3, cf⟩ := k2.set4; obtain ⟨d0, d1, d2, d3, df⟩ := k6.set4; obtain ⟨e0, e1, e2, e3, ef⟩ := k8.set4; obtain ⟨f0, f1, f2, f3, ff⟩ := k10.set4; clear k2 k6 k8 k10))
      go_ret
      exact ⟨by simp, FB2.out⟩
    · subst hst
      have HPM := Lib.hid hpr
      clear HM hpr
      go_wp2_with (first | (go_at_call 60; refine (HRp.out _).mono ?_; rintro e w4 ⟨rfl, hb⟩; have FB2 := Lib.hid (FB.out.trans (hb.mono FB.out.size)); have FG2 := Lib.hid (FG.out.below hb); have k2 := K2.out.below hb K2.out.lt; have k6 := K6.out.below hb K6.out.lt; have k8 := K8.out.below hb K8.out.lt; have k10 := K10.out.below hb K10.out.lt; clear hb c0 c1 c2 c3 cf K2 K6 K8 K10 FB FG HRp; obtain ⟨c0, c1, c2, c3, cf⟩ := k2.set4; obtain ⟨d0, d1, d2, d3, df⟩ := k6.set4; obtain ⟨e0, e1, e2, e3, ef⟩ := k8.set4; obtain ⟨f0, f1, f2, f3, ff⟩ := k10.set4; clear k2 k6 k8 k10) | (go_at_call 57; refine (HPM.out _ FG2.out).mono ?_; rintro e w5 ⟨rfl, hb⟩))
      go_ret
      exact ⟨by simp, FB2.out.trans (hb.mono FB2.out.size)⟩
  · have hs2 : 2000 < s.size := by omega
    clear hsane hs HPr HRp HPb
    clear hg hN
    go_enter Tryd.func8, Tryd.ntmps8
    simp only [setV]
    go_wp2_with (first | (go_at_call 16; refine (HS.out _ (HG.out.below (below_new1 _ _))).mono ?_; rintro e w2 ⟨rfl, hb⟩))
    go_ret
    exact ⟨by simp, (below_new1 _ _).trans (hb.mono (by simp))⟩
end Go.Proofs.YtjifajigigflkaaDoor
namespace Go.Proofs.YtjifajigigflkaaDoor
set_option linter.unusedSimpArgs false
set_option linter.unusedVariables false
open Go Go.RowKit Go.ChangeShapes Go.WideShapes Go.ChangeAt

set_option maxRecDepth 100000 in
theorem bitsTexts_lifted (os : Os) (started : os.Started) (H : Type) (enc : TypeId × Value → H) :
    ReturnsInHanded {} Tryd.checked os 8 .any (fun w args => (Rows.bitsTextsSpec.pre enc Tryd.prog Tryd.f8 [] false w args ∧ laidMetH Tryd.prog laidS w) ∧ sizedMet enc Tryd.prog Tryd.f8 (OpenSpec.ofChange Rows.bitsTextsSpec) false w args)
      (Rows.bitsTextsSpec.post enc Tryd.prog Tryd.f8 false true false false) := by
  refine lifted_of started (by kernel_rfl) Tryd.func8
    (ChangeSpec.witness_shaped (enc := enc) (C := Tryd.checked) (os := os) (X := fun w _ => laidMetH Tryd.prog laidS w) false (World.laidAll Tryd.prog os laidS) #[.agg #[.int .u64 0, .int .u64 0, .int .u64 0, .int .u64 0], .string ⟨#[]⟩] 8 (World.laidAll_os _ _ _)
      (World.shaped_of_ZipB (by kernel_rfl) (by kernel_rfl)) (by kernel_rfl) (by kernel_rfl) (by kernel_rfl) (laid_met os _)) ?_
  intro W base args ds gs before hg hval0 hW _
  have hval : ∀ (j : Nat) t v, Tryd.f8.params[j]? = some t → args[j]? = some v → Value.okWide Tryd.prog W .any base t v := hval0
  have hW' := hW
  obtain ⟨p, q, hA0, hV, rfl, _, _⟩ := hW
  have hA : DataW.TrodAll enc Tryd.prog W 0 (fun _ => true) true Tryd.f8.params.toList args.toList ds p := hA0
  rw [Tryd.params8] at hA hval
  obtain ⟨v0, v1, d0, d1, p0, p1, rfl, rfl, rfl, h0, h1⟩ := trodAll_two hA
  obtain ⟨rfl, rfl⟩ := trodVars_none hV
  obtain ⟨x0, b0, rfl, rfl, rfl⟩ := open_set (hval 0 _ v0 rfl rfl) h0
  obtain ⟨x1, rfl, rfl, rfl, w1⟩ := Go.ChangeMaps.open_string Tryd.underlying9 (hval 1 _ v1 rfl rfl) h1
  simp only [List.append_nil] at hW'
  refine (bitsTexts_any sane_any x0 x1 W hg b0).mono fun e W' ⟨he, hb⟩ => ?_
  subst he
  exact ⟨_, rfl, _, _, _, [], [], [], hW', trodAll_mk1 (shut_bool Tryd.underlying4 _), trodAll_mk2 (shut_set x0) (Go.ChangeMaps.shut_string Tryd.underlying9 w1), rfl, hb.frame _, fun h => by cases h⟩
theorem bitsTexts_holds : Rows.BitsTextsSaid :=
  OpenClaim.holds_of_wide 8 Tryd.f8 rfl rfl rfl rfl rfl rfl rfl ⟨rfl, rfl, rfl, rfl, rfl⟩ rfl rfl rfl rfl rfl (by kernel_rfl) Tryd.func8 (by kernel_rfl)
    (of_decide_eq_true (by kernel_rfl)) (by unfold Func.isWrapper; first | (rw [if_pos (by decide +kernel)]; kernel_rfl) | (rw [if_neg (by decide +kernel)]; exact ⟨rfl, rfl⟩))
    (fun os started H enc _ => bitsTexts_lifted os started H enc)
theorem bitsTexts_card : Rows.BitsTextsCardSaid :=
  Claim7.holds_tied_plain_at .later [] [.data, .data, .data, .sentinel, .sentinel] true Rows.bitsTextsCard.stood.harness true bitsTexts_holds (fun _ h => by cases h) (by kernel_rfl) (fun _ h => by cases h) bitsTexts_row_tie rfl ⟨rfl, rfl⟩ (by kernel_rfl) rfl
    (fun f fn hf hfn => by
      obtain rfl : f = 8 := Option.some.inj ((show Tryd.prog.funcNamed "bonehouse/bonehouselaw01.BitsTexts" = some 8 by kernel_rfl).symm.trans hf) |>.symm
      obtain rfl : fn = Tryd.f8 := (Option.some.inj (Tryd.func8.symm.trans hfn)).symm
      exact ⟨by kernel_rfl, fun j t ht => by
        rw [Tryd.params8] at ht
        have hm : t ∈ [25, 9] := by simpa using Array.mem_of_getElem? ht
        have hall : ([25, 9].all fun u => !Tryd.prog.wantsStandIn u) = true := by kernel_rfl
        exact (show Tryd.prog.wantsStandIn t = false by simpa using List.all_eq_true.1 hall t hm)⟩)
    (by kernel_rfl)
#print axioms bitsTexts_card
end Go.Proofs.YtjifajigigflkaaDoor
