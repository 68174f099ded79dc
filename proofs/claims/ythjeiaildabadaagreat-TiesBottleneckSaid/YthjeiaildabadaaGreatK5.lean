/- Layer 4: slices.Grow and Concat of ties. / Layer 4: slices.Concat of two lists of ties. / Layer 4: Merge of the program. / Layer 4: the specification's all. / Layer 4: the specification's SameGraphs. / Layer 4: the specification's others and strong. / Layer 4: the specification's strong, over kept. / Layer 4: the specification's Strong, over kept. / Layer 4: the specification's Without, over kept. / Layer 4: the specification's Add, over kept. -/
import Derived.Test.YthjeiaildabadaaGreatK4
import Derived.Lib.AppendZeros
/- Layer 4: slices.Grow and Concat of ties. -/
namespace Go.Proofs.YthjeiaildabadaaGreat
set_option linter.unusedSimpArgs false
set_option linter.unusedVariables false
open Go Go.RowKit

theorem own_zeros (w : World) (n : Nat) (h0 : 0 < n) (hn : n ≤ 2000) (Z : Array Value) (hz : Z.size = 5) : (w.alloc (.cells (Builtin.zeroCells Z n ++ Builtin.zeroCells Z (grownCap w n 0 54 - n)) 54)).drew.ownsRow w.heap.size 54 5 (.slice (some ⟨w.heap.size, 0, none⟩) 0 (grownCap w n 0 54)) 0 [] := by
  have hge := grownCap_ge w n 0 54
  have hcm : grownCap w n 0 54 ≤ maxLen := grownCap_le_maxLen w n 0 _ (by simp only [maxLen]; omega)
  generalize grownCap w n 0 54 = c at *
  refine ⟨by simp, .inr ⟨w.heap.size, _, _, rfl, Nat.le_refl _, heap_alloc_new w _, Nat.zero_le _, hcm, ?_, by simp⟩⟩
  simp only [Array.size_append, size_zeroCells, hz, ← Nat.add_mul]
  congr 1
  omega
theorem run_append_nothing (w : World) (base n : Nat) (v : Value) (xs : List Value) (ty : TypeId) (cap : Nat) (hown : w.ownsRow base 54 5 v n xs) :
    (Builtin.append_ #[22, 22] ty #[v, .slice none 0 cap]).run Tryz.prog w = .ok v w := by
  obtain ⟨i0, hi0, hz0, hz1, hz2⟩ := info_parts infoT
  obtain ⟨hl, h⟩ := hown
  rcases h with ⟨rfl, h0⟩ | ⟨g, cp, cur, rfl, hg, hb, h1, h2, h3, h4⟩
  · simp [Builtin.append_, run_underlying Tryz.underlying22, sizeOf, typeInfo, hi0, Builtin.lenOf, Builtin.firstCells, loadCells, loadCellsFrom]
  · simp [Builtin.append_, run_underlying Tryz.underlying22, sizeOf, typeInfo, hi0, Builtin.lenOf, Builtin.firstCells, loadCells, loadCellsFrom, h1, storeCells]
theorem run_append_ties (w : World) (base n : Nat) (v : Value) (xs : List Value) (ty : TypeId) (a : Option Addr) (cap : Nat) (l : List TieD) (hown : w.ownsRow base 54 5 v n xs) (hs : TiesAt w a l) (hbase : base ≤ w.heap.size) (hn : n + l.length ≤ 5000) :
    ∃ v' w', (Builtin.append_ #[22, 22] ty #[v, .slice a l.length cap]).run Tryz.prog w = .ok v' w' ∧ w'.ownsRow base 54 5 v' (n + l.length) (xs ++ tvL l) ∧ Below base w w' := by
  obtain ⟨i0, hi0, hz0, hz1, hz2⟩ := info_parts infoT
  cases a with
  | none =>
    have h0 : l = [] := hs.elim id fun ⟨_, _, h, _⟩ => by cases h
    subst h0
    exact ⟨v, w, run_append_nothing w base n v xs ty cap hown, by simpa [tvL] using hown, (Below.refl _ _).mono hbase⟩
  | some ad =>
    obtain ⟨v', w', h1, h2, h3, _⟩ := run_append_own w base 22 ty 54 i0 _ 5 40 Tryz.underlying22 hi0 hz0 hz1 hz2 rfl (by decide) v n xs hown ad l.length cap (tvL l) (tvL_len l) (ties_src hs) (tvL_one l) (by simp only [maxLen]; omega) (by omega) hbase
    exact ⟨v', w', h1, h2, ((Below.refl _ _).mono hbase).grown h3 (by omega) (fun q hq => (World.ownsRow.lt hown q hq).1)⟩
set_option maxRecDepth 100000 in
set_option maxHeartbeats 4000000 in
theorem growT_any (n : Nat) (w : World) (hn : n ≤ 2000) :
    Calls Tryz.prog 104 #[.slice none 0 0, .int .i64 n] w fun e w' => ∃ v, e = .returned v ∧ w'.ownsRow w.heap.size 54 5 v 0 [] ∧ Below w.heap.size w w' := by
  obtain ⟨i0, hi0, hz0, hz1, hz2⟩ := info_parts infoT
  have t1 : decide ((n : Int) < 0) = false := decide_eq_false (by omega)
  by_cases h0 : 0 < n
  · have t2 : decide ((0 : Int) < n) = true := decide_eq_true (by omega)
    go_enter Tryz.func104, Tryz.ntmps104
    go_wp2_with (first | (at_builtin; go_loud (refine Lib.wpList_append_run _ rfl _ _ _ _ rfl _ _ rfl rfl _ _ (Lib.run_append_nil_zeros _ 22 3 _ 54 i0 _ .i64 .i64 Tryz.underlying22 Tryz.underlying3 hi0 hz0 n h0 (by omega) (by omega) (by rw [hz2]; omega)) ?_)))
    refine bodyPost_ret (v := .slice (some ⟨w.heap.size, 0, none⟩) 0 (grownCap w n 0 54)) (by simp [results, Tryz.results104, go_sem]) rfl ?_
    exact ⟨_, rfl, own_zeros w n h0 hn _ rfl, ((Below.refl _ _).alloc (Nat.le_refl _) _).drew⟩
  · have e0 : n = 0 := by omega
    subst e0
    go_enter Tryz.func104, Tryz.ntmps104
    go_wp2_with fail
    refine bodyPost_ret (v := .slice none 0 0) (by simp [results, Tryz.results104, go_sem]) rfl ?_
    exact ⟨_, rfl, World.ownsRow_nil _ _ _ _, Below.refl _ _⟩
end Go.Proofs.YthjeiaildabadaaGreat
/- Layer 4: slices.Concat of two lists of ties. -/
namespace Go.Proofs.YthjeiaildabadaaGreat
set_option linter.unusedSimpArgs false
set_option linter.unusedVariables false
open Go Go.RowKit

set_option maxRecDepth 100000 in
set_option maxHeartbeats 4000000 in
theorem concatT_any (sb : Nat) (a b : Option Addr) (ca cb : Nat) (A B : List TieD) (w : World) (hA : A.length ≤ 1000) (hB : B.length ≤ 1000) (hs : TiesAt w a A) (ht : TiesAt w b B)
    (hc : Blk w sb [.slice a A.length ca, .slice b B.length cb] 22) :
    Calls Tryz.prog 78 #[.slice (some ⟨sb, 0, none⟩) 2 2] w fun e w' => ∃ v, e = .returned v ∧ w'.ownsRow w.heap.size 54 5 v (A.length + B.length) (tvL A ++ tvL B) ∧ Below w.heap.size w w' := by
  have HS := Lib.hid hs
  have HT := Lib.hid ht
  have HC := Lib.hid hc
  have HG : Hid (Calls Tryz.prog 104 #[.slice none 0 0, .int .i64 (A.length + B.length : Nat)] w fun e w' => ∃ v, e = .returned v ∧ w'.ownsRow w.heap.size 54 5 v 0 [] ∧ Below w.heap.size w w') := growT_any _ w (by omega)
  obtain ⟨la, hla⟩ : ∃ la, la = A.length := ⟨_, rfl⟩
  obtain ⟨lb, hlb⟩ : ∃ lb, lb = B.length := ⟨_, rfl⟩
  have HL : Hid (la = A.length ∧ lb = B.length) := ⟨hla, hlb⟩
  rw [← hla] at hA HC HG ⊢
  rw [← hlb] at hB HC HG ⊢
  clear hs ht hc hla hlb
  obtain ⟨sm, hsm⟩ : ∃ sm : Nat → Nat, sm = fun k => if k = 0 then 0 else if k = 1 then la else la + lb := ⟨_, rfl⟩
  have s0 : sm 0 = 0 := by rw [hsm]; rfl
  have s1 : sm 1 = la := by rw [hsm]; rfl
  have s2 : sm 2 = la + lb := by rw [hsm]; rfl
  have S0 := Lib.hid s0
  have S1 := Lib.hid s1
  have S2 := Lib.hid s2
  clear hsm s0 s1 s2
  obtain ⟨xm, hxm⟩ : ∃ xm : Nat → List Value, xm = fun k => if k = 0 then [] else if k = 1 then tvL A else tvL A ++ tvL B := ⟨_, rfl⟩
  have X0 : Hid (xm 0 = []) := by rw [hxm]; rfl
  have X1 : Hid (xm 1 = tvL A) := by rw [hxm]; rfl
  have X2 : Hid (xm 2 = tvL A ++ tvL B) := by rw [hxm]; rfl
  clear hxm
  go_enter Tryz.func78, Tryz.ntmps78
  go_wp2_with fail
  go_loopg [3, 11] 2 (fun gk t3 t11 wr => ∃ k : Nat, k + gk = 2 ∧ t11 = .int .i64 k ∧ t3 = .int .i64 (sm k : Nat) ∧ Hid (wr = w))
  case atStart => exact ⟨0, rfl, rfl, by rw [S0.out]; rfl, rfl⟩
  case round =>
    obtain ⟨k, hkg, rfl, rfl, HW⟩ := hrel
    have ew := HW.out
    subst ew
    have c0 := HC.out.cell (i := 0) rfl
    have c1 := HC.out.cell (i := 1) rfl
    obtain rfl | rfl | rfl : k = 0 ∨ k = 1 ∨ k = 2 := by omega
    · have e0 := S0.out
      rw [e0]
      clear c1 e0
      have t1 : decide ((la : Int) < 0) = false := decide_eq_false (by omega)
      go_wp2_with fail
      go_roundg (gk - 1)
      case measure => omega
      case rel => exact ⟨1, by omega, rfl, by rw [S1.out], rfl⟩
    · have e0 := S1.out
      rw [e0]
      clear c0 e0
      have t1 : decide ((la : Int) + (lb : Int) < 0) = false := decide_eq_false (by omega)
      go_wp2_with fail
      go_roundg (gk - 1)
      case measure => omega
      case rel => exact ⟨2, by omega, rfl, by rw [S2.out]; simp, rfl⟩
    · have e0 := S2.out
      rw [e0]
      clear c0 c1 e0
      go_wp2_with (first | (go_at_call 104; refine HG.out.mono ?_; rintro e w1 ⟨v1, rfl, ho, hb⟩; clear HG; have HO := Lib.hid ho; have HB1 := Lib.hid hb; clear ho hb))
      obtain ⟨w0, hw0⟩ : ∃ w0, w0 = wr := ⟨_, rfl⟩
      have HW0 := Lib.hid hw0
      go_loopg [6, 27] 2 (fun gk t6 t27 W2 => ∃ k : Nat, k + gk = 2 ∧ t27 = .int .i64 k ∧ Hid (W2.ownsRow w0.heap.size 54 5 t6 (sm k) (xm k)) ∧ Hid (Below w0.heap.size w0 W2))
      case atStart => exact ⟨0, rfl, rfl, by rw [S0.out, X0.out, hw0]; exact HO, by rw [hw0]; exact HB1⟩
      case round =>
        clear HO HB1
        obtain ⟨k, hkg, rfl, HO, HB2⟩ := hrel
        have hC2 : Blk wr sb [.slice a la ca, .slice b lb cb] 22 := by have := HB2.out; rw [hw0] at this; exact HC.out.below this
        have HS2 : Hid (TiesAt wr a A) := by have := HB2.out; rw [hw0] at this; exact HS.out.below this
        have HT2 : Hid (TiesAt wr b B) := by have := HB2.out; rw [hw0] at this; exact HT.out.below this
        clear hw0
        have c0 := hC2.cell (i := 0) rfl
        have c1 := hC2.cell (i := 1) rfl
        clear hC2
        obtain rfl | rfl | rfl : k = 0 ∨ k = 1 ∨ k = 2 := by omega
        · clear c1
          rw [S0.out, X0.out] at HO
          go_wp2_with (first | (at_builtin; go_loud (obtain ⟨v', w', hr, ho, hb⟩ := run_append_ties wr w0.heap.size 0 u6 [] 22 a ca A HO.out HS2.out HB2.out.size (by have := HL.out; omega); rw [← HL.out.1] at hr ho; refine Lib.wpList_append_run _ rfl _ _ _ _ rfl _ _ rfl rfl _ _ hr ?_; clear hr; rw [Nat.zero_add] at ho; have HO3 := Lib.hid ho; have HB3 := Lib.hid (HB2.out.trans hb); clear ho hb)))
          go_roundg (gk - 1)
          case measure => omega
          case rel => exact ⟨1, by omega, rfl, by rw [S1.out, X1.out]; exact HO3.out, HB3⟩
        · clear c0
          rw [S1.out, X1.out] at HO
          go_wp2_with (first | (at_builtin; go_loud (obtain ⟨v', w', hr, ho, hb⟩ := run_append_ties wr w0.heap.size la u6 (tvL A) 22 b cb B HO.out HT2.out HB2.out.size (by have := HL.out; omega); rw [← HL.out.2] at hr ho; refine Lib.wpList_append_run _ rfl _ _ _ _ rfl _ _ rfl rfl _ _ hr ?_; clear hr; have HO3 := Lib.hid ho; have HB3 := Lib.hid (HB2.out.trans hb); clear ho hb)))
          go_roundg (gk - 1)
          case measure => omega
          case rel => exact ⟨2, by omega, rfl, by rw [S2.out, X2.out]; exact HO3.out, HB3⟩
        · rw [S2.out, X2.out] at HO
          clear c0 c1
          go_wp2_with fail
          refine bodyPost_ret (v := u6) (by simp [results, Tryz.results78, go_sem]) rfl ?_
          have e := HW0.out
          subst e
          exact ⟨_, rfl, HO.out, HB2.out⟩
end Go.Proofs.YthjeiaildabadaaGreat
/- Layer 4: Merge of the program. -/
namespace Go.Proofs.YthjeiaildabadaaGreat
set_option linter.unusedSimpArgs false
set_option linter.unusedVariables false
open Go Go.RowKit

theorem tvL_append : ∀ (l k : List TieD), tvL (l ++ k) = tvL l ++ tvL k
  | [], k => by simp [tvL]
  | t :: l, k => by simp [tvL, tvL_append l k]
def K3 (w W : World) (g h : List Value) : Prop := Blk W w.heap.size g 24 ∧ Blk W (w.heap.size + 1) h 24 ∧ Blk W (w.heap.size + 1 + 1) [.int .i64 0, .slice none 0 0] 24 ∧ Below w.heap.size w W
theorem K3.below {w W W' : World} {g h : List Value} (k : K3 w W g h) (hb : Below W.heap.size W W') : K3 w W' g h := ⟨k.1.below hb, k.2.1.below hb, k.2.2.1.below hb, k.2.2.2.trans (hb.mono k.2.2.2.size)⟩
theorem K3.new (w : World) (n n' : Int) (a b : Option Addr) (m q cap cap' : Nat) : K3 w (((w.alloc (.cells #[.int .i64 n, .slice a m cap] 24)).alloc (.cells #[.int .i64 n', .slice b q cap'] 24)).alloc (.cells #[.int .i64 0, .slice none 0 0] 24)) [.int .i64 n, .slice a m cap] [.int .i64 n', .slice b q cap'] := by
  have b1 := Blk.new w [.int .i64 n, .slice a m cap] 24
  have b2 := Blk.new (w.alloc (.cells #[.int .i64 n, .slice a m cap] 24)) [.int .i64 n', .slice b q cap'] 24
  have b3 := Blk.new ((w.alloc (.cells #[.int .i64 n, .slice a m cap] 24)).alloc (.cells #[.int .i64 n', .slice b q cap'] 24)) [.int .i64 0, .slice none 0 0] 24
  refine ⟨(b1.block (Below.heap_alloc _ _ _ (by simp))).block (Below.heap_alloc _ _ _ (by simp; omega)), ?_, ?_, (((Below.refl _ _).alloc (Nat.le_refl _) _).alloc (by simp) _).alloc (by simp; omega) _⟩
  · have := b2.block (Below.heap_alloc _ (.cells #[.int .i64 0, .slice none 0 0] 24) _ b2.lt)
    simpa using this
  · simpa using b3
def mrgF (ts us : List TieD) : List TieD := us.filter fun t => !decide (t ∈ ts)
def mrgR (n : Int) (ts : List TieD) (n' : Int) (us : List TieD) : GR := if okG n ts then (if okG n' us then (if n = n' then (if 512 < (ts ++ mrgF ts us).length then ⟨0, [], 2⟩ else ⟨n, ts ++ mrgF ts us, 0⟩) else ⟨0, [], 1⟩) else ⟨0, [], 40⟩) else ⟨0, [], 40⟩
theorem gres_zero3 {w V : World} {b4 : Nat} {er : Int} (hb : Below w.heap.size w V) : ∃ a c, Ending.returned (.tuple #[.agg #[.int .i64 0, .slice none 0 0], .int .i64 er]) = .returned (.tuple #[gV 0 a ([] : List TieD).length c, .int .i64 er]) ∧ TiesNew w.heap.size V a [] ∧ Below w.heap.size w V :=
  ⟨none, 0, rfl, TiesNew.nil _ _ _, hb⟩
end Go.Proofs.YthjeiaildabadaaGreat
/- Layer 4: the specification's all. -/
namespace Go.Proofs.YthjeiaildabadaaGreat
set_option linter.unusedSimpArgs false
set_option linter.unusedVariables false
open Go Go.RowKit

theorem infoB : (Tryz.prog.info? 4).map (fun i => (i.zero, i.size, i.bytes)) = some (some (.bool false), 1, 1) := by kernel_rfl
def bvL (l : List Bool) : List Value := l.map Value.bool
theorem bvL_len (l : List Bool) : (bvL l).length = l.length := by simp [bvL]
theorem bvL_get {l : List Bool} {i : Nat} {b : Bool} (h : l[i]? = some b) : (bvL l)[i]? = some (.bool b) := by simp [bvL, h]
theorem bvL_set (l : List Bool) (i : Nat) (b : Bool) : (bvL l).set i (.bool b) = bvL (l.set i b) := by simp [bvL, List.map_set]
theorem made_b (n : Nat) : madeCells #[Value.bool false] n = (bvL (List.replicate n false)).toArray := by
  apply Array.ext_getElem?
  intro i
  by_cases hi : i < n
  · simp [madeCells, bvL, hi, Nat.mod_one]
  · simp [madeCells, bvL, hi]
theorem make_b (n : Nat) (hn : n ≤ 100000) (w : World) : (Instr.makeSlice 70 (.int .i64 (n : Int)) (.int .i64 (n : Int))).run Tryz.prog w = .ok (.slice (some ⟨w.heap.size, 0, none⟩) n n) (w.alloc (.cells (bvL (List.replicate n false)).toArray 4)) := by
  obtain ⟨i0, hi0, hz0, hz1, hz2⟩ := info_parts infoB
  have hr := run_make (P := Tryz.prog) w 70 4 i0 (.bool false) Tryz.underlying70 hi0 hz0 .i64 .i64 n n (by omega) (Int.le_refl _) (by rw [hz2]; omega) (by omega)
  simp only [Int.toNat_natCast, hz1, Value.cells, Nat.mul_one] at hr
  rw [← made_b]
  exact hr
/-- A list of truth values that is being filled: k of them are f's, the rest stands as it was. -/
def filL (f g : Nat → Bool) (n k : Nat) : List Bool := (List.range n).map fun i => if i < k then f i else g i
theorem filL_len (f g : Nat → Bool) (n k : Nat) : (filL f g n k).length = n := by simp [filL]
theorem filL_get {f g : Nat → Bool} {n k i : Nat} (h : i < n) : (filL f g n k)[i]? = some (if i < k then f i else g i) := by simp [filL, h]
theorem filL_zero (f g : Nat → Bool) (n : Nat) : filL f g n 0 = (List.range n).map g := by simp [filL]
theorem filL_all (f g : Nat → Bool) (n : Nat) : filL f g n n = (List.range n).map f := by
  unfold filL
  apply List.map_congr_left
  intro i hi
  rw [if_pos (List.mem_range.1 hi)]
theorem filL_set (f g : Nat → Bool) {n k : Nat} (h : k < n) : (filL f g n k).set k (f k) = filL f g n (k + 1) := by
  apply List.ext_getElem?
  intro i
  rw [List.getElem?_set, filL_len]
  by_cases hi : i < n
  · rw [filL_get hi, filL_get hi]
    by_cases hk : k = i
    · subst hk; simp [hi]
    · rw [if_neg hk]
      by_cases h1 : i < k
      · rw [if_pos h1, if_pos (by omega)]
      · rw [if_neg h1, if_neg (by omega)]
  · rw [if_neg (by omega : ¬ k = i)]
    rw [List.getElem?_eq_none (by rw [filL_len]; omega), List.getElem?_eq_none (by rw [filL_len]; omega)]
theorem range_rep (n : Nat) (b : Bool) : (List.range n).map (fun _ => b) = List.replicate n b := by
  apply List.ext_getElem?; intro i
  by_cases h : i < n <;> simp [h]
set_option maxRecDepth 100000 in
set_option maxHeartbeats 4000000 in
theorem rAll_any (n : Int) (a : Option Addr) (cap : Nat) (ts : List TieD) (w : World) (hl : ts.length ≤ 1000) :
    Calls Tryz.prog 81 #[gV n a ts.length cap] w fun e w' => ∃ g, e = .returned (.slice (some ⟨g, 0, none⟩) ts.length ts.length) ∧ Blk w' g (bvL (List.replicate ts.length true)) 4 ∧ w.heap.size ≤ g ∧ Below w.heap.size w w' := by
  obtain ⟨m, hm⟩ : ∃ m, m = ts.length := ⟨_, rfl⟩
  rw [← hm] at hl ⊢
  clear hm
  have hmk := make_b m (by omega)
  have HB0 : Hid (Blk (w.alloc (.cells #[.int .i64 n, .slice a m cap] 24)) w.heap.size [.int .i64 n, .slice a m cap] 24) := Blk.new w _ _
  have c1 := HB0.out.cell (i := 1) rfl
  go_enter Tryz.func81, Tryz.ntmps81
  simp only [gV]
  go_wp2_with fail
  obtain ⟨b2, hb2⟩ : ∃ b2, b2 = w.heap.size + 1 := ⟨_, rfl⟩
  have HB2 := Lib.hid hb2
  try rw [← hb2]
  clear c1 hmk
  go_loopg [4] m (fun gk t4 wr => ∃ k : Nat, k + gk = m ∧ t4 = .int .i64 k ∧ Hid (Blk wr b2 (bvL (filL (fun _ => true) (fun _ => false) m k)) 4) ∧ Hid (Below w.heap.size w wr))
  case atStart =>
    refine ⟨0, by omega, rfl, ?_, ((Below.refl _ _).alloc (Nat.le_refl _) _).alloc (by simp) _⟩
    rw [filL_zero, range_rep]
    have := Blk.new (w.alloc (.cells #[.int .i64 n, .slice a m cap] 24)) (bvL (List.replicate m false)) 4
    rw [hb2]
    simpa [Hid] using this
  case round =>
    obtain ⟨k, hkg, rfl, HK, HB⟩ := hrel
    clear hb2
    by_cases hlt : k < m
    · have hc := HK.out.cell (bvL_get (filL_get hlt))
      have hf := HK.out.frozen k
      have HN : Hid (Blk (wr.setCell ⟨b2, k, none⟩ (.bool true)) b2 (bvL (filL (fun _ => true) (fun _ => false) m (k + 1))) 4) := by
        have h1 := HK.out.set_ k (.bool true)
        rw [bvL_set, filL_set (fun _ => true) (fun _ => false) hlt] at h1
        exact h1
      have HBN : Hid (Below w.heap.size w (wr.setCell ⟨b2, k, none⟩ (.bool true))) := HB.out.setCell (by have := HB2.out; show w.heap.size ≤ b2; omega) _
      have t1 : decide (k < m) = true := decide_eq_true hlt
      go_wp2_with fail
      go_roundg (gk - 1)
      case measure => omega
      case rel => exact ⟨k + 1, by omega, by simp, HN, HBN⟩
    · have e : k = m := by omega
      subst e
      have t1 : decide (k < k) = false := by simp
      go_wp2_with fail
      go_ret
      exact ⟨b2, rfl, by have := HK.out; rw [filL_all, range_rep] at this; exact this, by have := HB2.out; omega, HB.out⟩
end Go.Proofs.YthjeiaildabadaaGreat
/- Layer 4: the specification's SameGraphs. -/
namespace Go.Proofs.YthjeiaildabadaaGreat
set_option linter.unusedSimpArgs false
set_option linter.unusedVariables false
open Go Go.RowKit

set_option maxHeartbeats 2000000 in
theorem neq_tie (x y : Operand) (c d : TieD) (p : Bool) (hp : p = !decide (c = d)) (w : World) : (do eqGuard .neq 54 x y (tieV c) (tieV d); binOp .neq 54 (tieV c) (tieV d) : Sem Value).run Tryz.prog w = .ok (.bool p) w := by
  rw [← tieE_dec] at hp
  subst hp
  simp [go_sem, tieV]
  unfold tieE
  by_cases h0 : c.a = d.a <;> by_cases h1 : c.b = d.b <;> by_cases h2 : c.kind = d.kind <;> by_cases h3 : c.str = d.str <;> by_cases h4 : c.src = d.src <;> simp [h0, h1, h2, h3, h4]
def sameG (n : Int) (ts : List TieD) (n' : Int) (us : List TieD) : Bool := decide (n = n' ∧ ts = us)
set_option maxRecDepth 100000 in
set_option maxHeartbeats 4000000 in
theorem rSameG_any (n n' : Int) (a b : Option Addr) (cap cap' : Nat) (ts us : List TieD) (w : World) (hl : ts.length ≤ 100000) (hl' : us.length ≤ 100000) (hs : TiesAt w a ts) (ht : TiesAt w b us) :
    Calls Tryz.prog 21 #[gV n a ts.length cap, gV n' b us.length cap'] w fun e w' => e = .returned (.bool (sameG n ts n' us)) ∧ Below w.heap.size w w' := by
  have HS := Lib.hid hs
  have HT := Lib.hid ht
  obtain ⟨R, hR⟩ : ∃ R, R = sameG n ts n' us := ⟨_, rfl⟩
  have HR := Lib.hid hR
  rw [← hR]
  obtain ⟨m, hm⟩ : ∃ m, m = ts.length := ⟨_, rfl⟩
  obtain ⟨q, hq⟩ : ∃ q, q = us.length := ⟨_, rfl⟩
  have HL : Hid (m = ts.length ∧ q = us.length) := ⟨hm, hq⟩
  rw [← hm] at hl ⊢
  rw [← hq] at hl' ⊢
  clear hR hm hq hs ht
  have hB2 : Below w.heap.size w ((w.alloc (.cells #[.int .i64 n, .slice a m cap] 24)).alloc (.cells #[.int .i64 n', .slice b q cap'] 24)) := ((Below.refl _ _).alloc (Nat.le_refl _) _).alloc (by simp) _
  have K1 : Blk ((w.alloc (.cells #[.int .i64 n, .slice a m cap] 24)).alloc (.cells #[.int .i64 n', .slice b q cap'] 24)) w.heap.size [.int .i64 n, .slice a m cap] 24 := (Blk.new w [.int .i64 n, .slice a m cap] 24).block (Below.heap_alloc _ _ _ (by simp))
  have K2 : Blk ((w.alloc (.cells #[.int .i64 n, .slice a m cap] 24)).alloc (.cells #[.int .i64 n', .slice b q cap'] 24)) (w.heap.size + 1) [.int .i64 n', .slice b q cap'] 24 := by
    have := Blk.new (w.alloc (.cells #[.int .i64 n, .slice a m cap] 24)) [.int .i64 n', .slice b q cap'] 24
    simpa using this
  have HB2 := Lib.hid hB2
  have HK1 := Lib.hid K1
  have HK2 := Lib.hid K2
  have c0 := K1.cell (i := 0) rfl
  have c1 := K1.cell (i := 1) rfl
  have g0 := K2.cell (i := 0) rfl
  have g1 := K2.cell (i := 1) rfl
  clear K1 K2 hB2
  by_cases hn : n = n'
  case neg =>
    have hRR : R = false := by rw [HR.out]; unfold sameG; exact decide_eq_false fun h => hn h.1
    subst hRR
    have t1 : (n != n') = true := by simpa using hn
    clear hn
    go_enter Tryz.func21, Tryz.ntmps21
    simp only [gV]
    go_wp2_with fail
    go_ret
    exact ⟨rfl, HB2.out⟩
  have t1 : (n != n') = false := by simpa using hn
  have HN := Lib.hid hn
  clear hn
  by_cases hmq : m = q
  case neg =>
    have hRR : R = false := by
      rw [HR.out]; unfold sameG
      refine decide_eq_false fun h => hmq ?_
      have := HL.out; rw [this.1, this.2, h.2]
    subst hRR
    have t2 : ((m : Int) != (q : Int)) = true := by simp; omega
    have t3 : (m != q) = true := by simpa using hmq
    clear hmq
    go_enter Tryz.func21, Tryz.ntmps21
    simp only [gV]
    go_wp2_with fail
    go_ret
    exact ⟨rfl, HB2.out⟩
  have HMQ := Lib.hid hmq
  have t2 : ((m : Int) != (q : Int)) = false := by simp; omega
  have t3 : (m != q) = false := by simpa using hmq
  clear hmq
  have HRS : Hid (R = decide (ts = us)) := by
    rw [Hid, HR.out]; unfold sameG
    rw [Bool.eq_iff_iff]; simp [HN.out]
  go_enter Tryz.func21, Tryz.ntmps21
  simp only [gV]
  go_wp2_with fail
  obtain ⟨b1, hb1⟩ : ∃ b1, b1 = w.heap.size := ⟨_, rfl⟩
  have HB1 := Lib.hid hb1
  rw [← hb1] at HK1 HK2 ⊢
  obtain ⟨b2, hb2⟩ : ∃ b2, b2 = b1 + 1 := ⟨_, rfl⟩
  rw [← hb2] at HK2 ⊢
  clear c0 c1 g0 g1 hb1 hb2
  go_loopg [5] m (fun gk t5 wr => ∃ k : Nat, k + gk = m ∧ t5 = .int .i64 k ∧ Hid (∀ i, i < k → ts[i]? = us[i]?) ∧ Hid (Blk wr b1 [.int .i64 n, .slice a m cap] 24) ∧ Hid (Blk wr b2 [.int .i64 n', .slice b q cap'] 24) ∧ Hid (Below w.heap.size w wr))
  case atStart => exact ⟨0, by omega, rfl, fun i hi => absurd hi (Nat.not_lt_zero i), HK1, HK2, HB2⟩
  case round =>
    clear HK1 HK2 HB2
    obtain ⟨k, hkg, rfl, HA, HK1, HK2, HB⟩ := hrel
    have e1 := HK1.out.cell (i := 1) rfl
    by_cases hlt : k < m
    · have t4 : decide (k < m) = true := decide_eq_true hlt
      have hkl : k < ts.length := by rw [← HL.out.1]; exact hlt
      have hku : k < us.length := by have h1 := HL.out; have h2 := HMQ.out; omega
      obtain ⟨lb, lo, rfl, hlb, x0, x1, x2, x3, x4⟩ := (HS.out.below HB.out).at hkl
      obtain ⟨ub, uo, rfl, hub, y0, y1, y2, y3, y4⟩ := (HT.out.below HB.out).at hku
      have HXX : Hid (ts[k]? = some ts[k] ∧ us[k]? = some us[k]) := ⟨List.getElem?_eq_getElem hkl, List.getElem?_eq_getElem hku⟩
      obtain ⟨x, hx⟩ : ∃ x, x = ts[k] := ⟨_, rfl⟩
      obtain ⟨y, hy⟩ : ∃ y, y = us[k] := ⟨_, rfl⟩
      rw [← hx] at x0 x1 x2 x3 x4 HXX
      rw [← hy] at y0 y1 y2 y3 y4 HXX
      have HLD : Hid (∀ W, (clOld wr.drew).C W → (Instr.loadAt 54 (.pointer (some ⟨lb, lo + k * 5, none⟩))).run Tryz.prog W = .ok (tieV x) W ∧ (Instr.loadAt 54 (.pointer (some ⟨ub, uo + k * 5, none⟩))).run Tryz.prog W = .ok (tieV y) W) := fun W hC => by
        have hb : Below wr.heap.size wr W := old_end (Below.refl _ _) hC (Nat.le_refl _)
        exact ⟨load_tie (by rw [hb.cell (by exact hlb)]; exact x0) (by rw [hb.cell (by exact hlb)]; exact x1) (by rw [hb.cell (by exact hlb)]; exact x2) (by rw [hb.cell (by exact hlb)]; exact x3) (by rw [hb.cell (by exact hlb)]; exact x4), load_tie (by rw [hb.cell (by exact hub)]; exact y0) (by rw [hb.cell (by exact hub)]; exact y1) (by rw [hb.cell (by exact hub)]; exact y2) (by rw [hb.cell (by exact hub)]; exact y3) (by rw [hb.cell (by exact hub)]; exact y4)⟩
      have HLT : Hid (k < m) := hlt
      have HLU : Hid (k < q) := by have h2 := HMQ.out; rw [Hid]; omega
      clear hx hy hkl hku hlb hub x0 x1 x2 x3 x4 y0 y1 y2 y3 y4
      cases hp : decide (x = y) with
      | true =>
        have HQ : Hid (false = !decide (x = y)) := by rw [hp]; rfl
        have HAN : Hid (∀ i, i < k + 1 → ts[i]? = us[i]?) := fun i hi => by
          by_cases h : i = k
          · rw [h, HXX.out.1, HXX.out.2, of_decide_eq_true hp]
          · exact HA.out i (by omega)
        clear hp
        go_upto_region 6 with (fail)
        refine wp_region_old 11 38 (by kernel_rfl) (by kernel_rfl) (by rfl) ?_
        simp only [List.take_succ_cons, List.take_zero, List.drop_succ_cons, List.drop_zero, List.drop_nil]
        refine chain_val (.pointer (some ⟨b1, 1, none⟩)) (fun _ _ => Below.refl _ _) rfl (by intro cs b h; cases h) (by kernel_rfl) (by kernel_rfl) (fun w1 _ => by simp [execOp, evE, lk_cons, lk_nil, slotL, go_sem]) ?_
        refine chain_load (.slice (some ⟨lb, lo, none⟩) m cap) _ _ _ (fun _ _ => Below.refl _ _) rfl rfl (by kernel_rfl) (by kernel_rfl) rfl (fun w1 hC => load_slt ((HK1.out.below (show Below wr.heap.size wr w1 from old_end (Below.refl _ _) hC (Nat.le_refl _))).cell rfl)) ?_
        refine chain_move (.int .i64 k) _ (fun _ _ => Below.refl _ _) rfl rfl (by kernel_rfl) (by kernel_rfl) rfl ?_
        refine chain_idx (.pointer (some ⟨lb, lo + k * 5, none⟩)) _ _ _ (.slice (some ⟨lb, lo, none⟩) m cap) (.int .i64 k) (fun _ _ => Below.refl _ _) rfl rfl (by kernel_rfl) (by kernel_rfl) rfl rfl (fun w1 => idx_tie _ _ _ _ _ HLT.out w1) ?_
        refine chain_load (tieV x) _ _ _ (fun _ _ => Below.refl _ _) rfl rfl (by kernel_rfl) (by kernel_rfl) rfl (fun w1 hC => (HLD.out w1 hC).1) ?_
        refine chain_val (.pointer (some ⟨b2, 1, none⟩)) (fun _ _ => Below.refl _ _) rfl (by intro cs b h; cases h) (by kernel_rfl) (by kernel_rfl) (fun w1 _ => by simp [execOp, evE, lk_cons, lk_nil, slotL, go_sem]) ?_
        refine chain_load (.slice (some ⟨ub, uo, none⟩) q cap') _ _ _ (fun _ _ => Below.refl _ _) rfl rfl (by kernel_rfl) (by kernel_rfl) rfl (fun w1 hC => load_slt ((HK2.out.below (show Below wr.heap.size wr w1 from old_end (Below.refl _ _) hC (Nat.le_refl _))).cell rfl)) ?_
        refine chain_move (.int .i64 k) _ (fun _ _ => Below.refl _ _) rfl rfl (by kernel_rfl) (by kernel_rfl) rfl ?_
        refine chain_idx (.pointer (some ⟨ub, uo + k * 5, none⟩)) _ _ _ (.slice (some ⟨ub, uo, none⟩) q cap') (.int .i64 k) (fun _ _ => Below.refl _ _) rfl rfl (by kernel_rfl) (by kernel_rfl) rfl rfl (fun w1 => idx_tie _ _ _ _ _ HLU.out w1) ?_
        refine chain_load (tieV y) _ _ _ (fun _ _ => Below.refl _ _) rfl rfl (by kernel_rfl) (by kernel_rfl) rfl (fun w1 hC => (HLD.out w1 hC).2) ?_
        refine chain_bin (.bool false) _ _ _ _ _ (tieV x) (tieV y) (fun _ _ => Below.refl _ _) rfl rfl (by kernel_rfl) (by kernel_rfl) rfl rfl (fun w1 => neq_tie _ _ _ _ _ HQ.out w1) ?_
        refine chain_end (by rfl) ?_
        intro xs w1 hCw1 hrew1
        simp only [layE, List.foldr_cons, List.foldr_nil, List.set_cons_succ, List.set_cons_zero]
        have HO : Hid (Below wr.heap.size wr w1) := old_end (Below.refl wr.heap.size wr) hCw1 (Nat.le_refl _)
        clear hCw1 hrew1 e1
        go_wp2_with fail
        go_roundg (gk - 1)
        case measure => omega
        case rel => exact ⟨k + 1, by omega, by simp, HAN, HK1.out.below HO.out, HK2.out.below HO.out, HB.out.trans (HO.out.mono HB.out.size)⟩
      | false =>
        have HQ : Hid (true = !decide (x = y)) := by rw [hp]; rfl
        have hRR : R = false := by
          rw [HRS.out]
          refine decide_eq_false fun h => of_decide_eq_false hp ?_
          have h1 := HXX.out.1; rw [h, HXX.out.2] at h1
          exact (Option.some.inj h1).symm
        subst hRR
        clear hp
        go_upto_region 6 with (fail)
        refine wp_region_old 11 38 (by kernel_rfl) (by kernel_rfl) (by rfl) ?_
        simp only [List.take_succ_cons, List.take_zero, List.drop_succ_cons, List.drop_zero, List.drop_nil]
        refine chain_val (.pointer (some ⟨b1, 1, none⟩)) (fun _ _ => Below.refl _ _) rfl (by intro cs b h; cases h) (by kernel_rfl) (by kernel_rfl) (fun w1 _ => by simp [execOp, evE, lk_cons, lk_nil, slotL, go_sem]) ?_
        refine chain_load (.slice (some ⟨lb, lo, none⟩) m cap) _ _ _ (fun _ _ => Below.refl _ _) rfl rfl (by kernel_rfl) (by kernel_rfl) rfl (fun w1 hC => load_slt ((HK1.out.below (show Below wr.heap.size wr w1 from old_end (Below.refl _ _) hC (Nat.le_refl _))).cell rfl)) ?_
        refine chain_move (.int .i64 k) _ (fun _ _ => Below.refl _ _) rfl rfl (by kernel_rfl) (by kernel_rfl) rfl ?_
        refine chain_idx (.pointer (some ⟨lb, lo + k * 5, none⟩)) _ _ _ (.slice (some ⟨lb, lo, none⟩) m cap) (.int .i64 k) (fun _ _ => Below.refl _ _) rfl rfl (by kernel_rfl) (by kernel_rfl) rfl rfl (fun w1 => idx_tie _ _ _ _ _ HLT.out w1) ?_
        refine chain_load (tieV x) _ _ _ (fun _ _ => Below.refl _ _) rfl rfl (by kernel_rfl) (by kernel_rfl) rfl (fun w1 hC => (HLD.out w1 hC).1) ?_
        refine chain_val (.pointer (some ⟨b2, 1, none⟩)) (fun _ _ => Below.refl _ _) rfl (by intro cs b h; cases h) (by kernel_rfl) (by kernel_rfl) (fun w1 _ => by simp [execOp, evE, lk_cons, lk_nil, slotL, go_sem]) ?_
        refine chain_load (.slice (some ⟨ub, uo, none⟩) q cap') _ _ _ (fun _ _ => Below.refl _ _) rfl rfl (by kernel_rfl) (by kernel_rfl) rfl (fun w1 hC => load_slt ((HK2.out.below (show Below wr.heap.size wr w1 from old_end (Below.refl _ _) hC (Nat.le_refl _))).cell rfl)) ?_
        refine chain_move (.int .i64 k) _ (fun _ _ => Below.refl _ _) rfl rfl (by kernel_rfl) (by kernel_rfl) rfl ?_
        refine chain_idx (.pointer (some ⟨ub, uo + k * 5, none⟩)) _ _ _ (.slice (some ⟨ub, uo, none⟩) q cap') (.int .i64 k) (fun _ _ => Below.refl _ _) rfl rfl (by kernel_rfl) (by kernel_rfl) rfl rfl (fun w1 => idx_tie _ _ _ _ _ HLU.out w1) ?_
        refine chain_load (tieV y) _ _ _ (fun _ _ => Below.refl _ _) rfl rfl (by kernel_rfl) (by kernel_rfl) rfl (fun w1 hC => (HLD.out w1 hC).2) ?_
        refine chain_bin (.bool true) _ _ _ _ _ (tieV x) (tieV y) (fun _ _ => Below.refl _ _) rfl rfl (by kernel_rfl) (by kernel_rfl) rfl rfl (fun w1 => neq_tie _ _ _ _ _ HQ.out w1) ?_
        refine chain_end (by rfl) ?_
        intro xs w1 hCw1 hrew1
        simp only [layE, List.foldr_cons, List.foldr_nil, List.set_cons_succ, List.set_cons_zero]
        have HO : Hid (Below wr.heap.size wr w1) := old_end (Below.refl wr.heap.size wr) hCw1 (Nat.le_refl _)
        clear hCw1 hrew1 e1
        go_wp2_with fail
        go_ret
        exact ⟨rfl, HB.out.trans (HO.out.mono HB.out.size)⟩
    · have e : k = m := by omega
      have t4 : decide (k < m) = false := decide_eq_false hlt
      have hRR : R = true := by
        rw [HRS.out]
        refine decide_eq_true (List.ext_getElem? fun i => ?_)
        by_cases hi : i < k
        · exact HA.out i hi
        · have h1 := HL.out; have h2 := HMQ.out
          rw [List.getElem?_eq_none (by omega), List.getElem?_eq_none (by omega)]
      subst hRR
      clear e
      go_wp2_with fail
      go_ret
      exact ⟨rfl, HB.out⟩
end Go.Proofs.YthjeiaildabadaaGreat
/- Layer 4: the specification's others and strong. -/
namespace Go.Proofs.YthjeiaildabadaaGreat
set_option linter.unusedSimpArgs false
set_option linter.unusedVariables false
open Go Go.RowKit

def pAt (p : TieD → Bool) (ts : List TieD) (i : Nat) : Bool := match ts[i]? with | some t => p t | none => false
theorem pAt_all (p : TieD → Bool) (ts : List TieD) : (List.range ts.length).map (pAt p ts) = ts.map p := by
  apply List.ext_getElem?; intro i
  by_cases h : i < ts.length
  · simp [h, pAt]
  · simp [h, List.getElem?_eq_none]
theorem pAt_get {p : TieD → Bool} {ts : List TieD} {k : Nat} (h : k < ts.length) : pAt p ts k = p ts[k] := by
  unfold pAt; rw [List.getElem?_eq_getElem h]
set_option maxRecDepth 100000 in
set_option maxHeartbeats 4000000 in
theorem rOthers_any (s : Int) (n : Int) (a : Option Addr) (cap : Nat) (ts : List TieD) (w : World) (hl : ts.length ≤ 1000) (hs : TiesAt w a ts) :
    Calls Tryz.prog 71 #[gV n a ts.length cap, .int .i64 s] w fun e w' => ∃ g, e = .returned (.slice (some ⟨g, 0, none⟩) ts.length ts.length) ∧ Blk w' g (bvL (ts.map fun t => !(t.src == s))) 4 ∧ w.heap.size ≤ g ∧ Below w.heap.size w w' := by
  have HS := Lib.hid hs
  obtain ⟨p, hp⟩ : ∃ p : TieD → Bool, p = fun t => !(t.src == s) := ⟨_, rfl⟩
  have HP : Hid (∀ t : TieD, p t = !(t.src == s)) := fun t => by rw [hp]
  rw [← hp]
  clear hp
  have HA : Hid (∀ W, Calls Tryz.prog 81 #[gV n a ts.length cap] W fun e w' => ∃ g, e = .returned (.slice (some ⟨g, 0, none⟩) ts.length ts.length) ∧ Blk w' g (bvL (List.replicate ts.length true)) 4 ∧ W.heap.size ≤ g ∧ Below W.heap.size W w') := fun W => rAll_any n a cap ts W hl
  obtain ⟨m, hm⟩ : ∃ m, m = ts.length := ⟨_, rfl⟩
  have HL := Lib.hid hm
  rw [← hm] at hl HA ⊢
  clear hs hm
  simp only [gV] at HA ⊢
  have HB0 : Hid (Blk (w.alloc (.cells #[.int .i64 n, .slice a m cap] 24)) w.heap.size [.int .i64 n, .slice a m cap] 24) := Blk.new w _ _
  have HW0 : Hid (Below w.heap.size w (w.alloc (.cells #[.int .i64 n, .slice a m cap] 24))) := (Below.refl _ _).alloc (Nat.le_refl _) _
  have c0 := HB0.out.cell (i := 0) rfl
  have c1 := HB0.out.cell (i := 1) rfl
  go_enter Tryz.func71, Tryz.ntmps71
  go_wp2_with (first | (go_at_call 81; refine (HA.out _).mono ?_; rintro e w1 ⟨g, rfl, hk, hg, hb⟩; clear HA c0 c1; have HG := Lib.hid hk; have HGE : Hid (w.heap.size < g) := Nat.lt_of_lt_of_le HB0.out.lt hg; have HK := Lib.hid (HB0.out.below hb); have HB := Lib.hid (HW0.out.trans (hb.mono HW0.out.size)); clear hk hg hb HB0 HW0))
  obtain ⟨b1, hb1⟩ : ∃ b1, b1 = w.heap.size := ⟨_, rfl⟩
  have HB1 := Lib.hid hb1
  rw [← hb1] at HK HGE ⊢
  clear hb1
  go_loopg [6] m (fun gk t6 wr => ∃ k : Nat, k + gk = m ∧ t6 = .int .i64 k ∧ Hid (Blk wr g (bvL (filL (pAt p ts) (fun _ => true) m k)) 4) ∧ Hid (Blk wr b1 [.int .i64 n, .slice a m cap] 24) ∧ Hid (Below w.heap.size w wr))
  case atStart => exact ⟨0, by omega, rfl, by rw [filL_zero, range_rep]; exact HG, HK, HB⟩
  case round =>
    clear HG HK HB
    obtain ⟨k, hkg, rfl, HG, HK, HB⟩ := hrel
    by_cases hlt : k < m
    · have hkl : k < ts.length := by rw [← HL.out]; exact hlt
      obtain ⟨lb, lo, rfl, hlb, x0, x1, x2, x3, x4⟩ := (HS.out.below HB.out).at hkl
      have c1 := HK.out.cell (i := 1) rfl
      have hc := HG.out.cell (bvL_get (filL_get hlt))
      have hf := HG.out.frozen k
      obtain ⟨v, hv⟩ : ∃ v, v = pAt p ts k := ⟨_, rfl⟩
      have HV : Hid ((ts[k].src != s) = v) := by rw [Hid, hv, pAt_get hkl, HP.out]; rfl
      have HN : Hid (Blk (wr.setCell ⟨g, k, none⟩ (.bool v)) g (bvL (filL (pAt p ts) (fun _ => true) m (k + 1))) 4) := by
        have h1 := HG.out.set_ k (.bool v)
        rw [hv, bvL_set, filL_set _ _ hlt] at h1
        rw [hv]; exact h1
      have HKN : Hid (Blk (wr.setCell ⟨g, k, none⟩ (.bool v)) b1 [.int .i64 n, .slice (some ⟨lb, lo, none⟩) m cap] 24) := HK.out.only ((Only.refl g wr).set_ k _) (by have := HGE.out; omega)
      have HBN : Hid (Below w.heap.size w (wr.setCell ⟨g, k, none⟩ (.bool v))) := HB.out.setCell (by have := HGE.out; have := HB1.out; show w.heap.size ≤ g; omega) _
      have t1 : decide (k < m) = true := decide_eq_true hlt
      generalize ts[k].src = xs at *
      have tv : (xs != s) = v := HV
      clear hv hkl x0 x1 x2 x3 HV hlb
      go_wp2_with fail
      go_roundg (gk - 1)
      case measure => omega
      case rel => exact ⟨k + 1, by omega, by simp, HN, HKN, HBN⟩
    · have e : k = m := by omega
      subst e
      have t1 : decide (k < k) = false := by simp
      go_wp2_with fail
      go_ret
      exact ⟨g, rfl, by have := HG.out; rw [filL_all, HL.out, pAt_all] at this; exact this, by have := HGE.out; have := HB1.out; omega, HB.out⟩
end Go.Proofs.YthjeiaildabadaaGreat
/- Layer 4: the specification's strong, over kept. -/
namespace Go.Proofs.YthjeiaildabadaaGreat
set_option linter.unusedSimpArgs false
set_option linter.unusedVariables false
open Go Go.RowKit

/-- What kept does: the ties of which the list says so. -/
def KeptOk : Prop := ∀ (p : TieD → Bool) (n : Int) (a : Option Addr) (cap g : Nat) (ts : List TieD) (w : World), ts.length ≤ 1000 → TiesAt w a ts → Blk w g (bvL (ts.map p)) 4 →
    Calls Tryz.prog 48 #[gV n a ts.length cap, .slice (some ⟨g, 0, none⟩) ts.length ts.length] w (GRet n (ts.filter p) w)
set_option maxRecDepth 100000 in
set_option maxHeartbeats 4000000 in
theorem rstrong_any (HKO : KeptOk) (s : Int) (n : Int) (a : Option Addr) (cap : Nat) (ts : List TieD) (w : World) (hl : ts.length ≤ 1000) (hs : TiesAt w a ts) :
    Calls Tryz.prog 56 #[gV n a ts.length cap, .int .i64 s] w (GRet n (ts.filter fun t => decide (s ≤ t.str)) w) := by
  have HS := Lib.hid hs
  obtain ⟨p, hp⟩ : ∃ p : TieD → Bool, p = fun t => decide (s ≤ t.str) := ⟨_, rfl⟩
  have HP : Hid (∀ t : TieD, p t = decide (s ≤ t.str)) := fun t => by rw [hp]
  rw [← hp]
  clear hp
  have HA : Hid (∀ W, Calls Tryz.prog 81 #[gV n a ts.length cap] W fun e w' => ∃ g, e = .returned (.slice (some ⟨g, 0, none⟩) ts.length ts.length) ∧ Blk w' g (bvL (List.replicate ts.length true)) 4 ∧ W.heap.size ≤ g ∧ Below W.heap.size W w') := fun W => rAll_any n a cap ts W hl
  have HKP : Hid (∀ W g, Below w.heap.size w W → Blk W g (bvL (ts.map p)) 4 → Calls Tryz.prog 48 #[gV n a ts.length cap, .slice (some ⟨g, 0, none⟩) ts.length ts.length] W (GRet n (ts.filter p) W)) := fun W g hb hk => HKO p n a cap g ts W hl (hs.below hb) hk
  obtain ⟨m, hm⟩ : ∃ m, m = ts.length := ⟨_, rfl⟩
  have HL := Lib.hid hm
  rw [← hm] at hl HA HKP
  rw [← hm]
  clear hs hm HKO
  unfold GRet at HKP ⊢
  simp only [gV] at HA HKP ⊢
  obtain ⟨F, hF⟩ : ∃ F, F = ts.filter p := ⟨_, rfl⟩
  rw [← hF] at HKP ⊢
  clear hF
  have HB0 : Hid (Blk ((w.alloc (.cells #[.int .i64 n, .slice a m cap] 24)).alloc (.cells #[.int .i64 0, .slice none 0 0] 24)) w.heap.size [.int .i64 n, .slice a m cap] 24) := (Blk.new w _ _).block (Below.heap_alloc _ _ _ (by simp))
  have HZ0 : Hid (Blk ((w.alloc (.cells #[.int .i64 n, .slice a m cap] 24)).alloc (.cells #[.int .i64 0, .slice none 0 0] 24)) (w.heap.size + 1) [.int .i64 0, .slice none 0 0] 24) := by
    have := Blk.new (w.alloc (.cells #[.int .i64 n, .slice a m cap] 24)) [.int .i64 0, .slice none 0 0] 24
    simpa [Hid] using this
  have HW0 : Hid (Below w.heap.size w ((w.alloc (.cells #[.int .i64 n, .slice a m cap] 24)).alloc (.cells #[.int .i64 0, .slice none 0 0] 24))) := ((Below.refl _ _).alloc (Nat.le_refl _) _).alloc (by simp) _
  have c0 := HB0.out.cell (i := 0) rfl
  have c1 := HB0.out.cell (i := 1) rfl
  go_enter Tryz.func56, Tryz.ntmps56
  go_wp2_with (first | (go_at_call 81; refine (HA.out _).mono ?_; rintro e w1 ⟨g, rfl, hk, hg, hb⟩; clear HA c0 c1; have HG := Lib.hid hk; have HGE : Hid (w.heap.size + 1 < g) := Nat.lt_of_lt_of_le HZ0.out.lt hg; have HK := Lib.hid (HB0.out.below hb); have HZ := Lib.hid (HZ0.out.below hb); have HB := Lib.hid (HW0.out.trans (hb.mono HW0.out.size)); clear hk hg hb HB0 HW0 HZ0))
  obtain ⟨b1, hb1⟩ : ∃ b1, b1 = w.heap.size := ⟨_, rfl⟩
  have HB1 := Lib.hid hb1
  rw [← hb1] at HK HZ HGE ⊢
  obtain ⟨b4, hb4⟩ : ∃ b4, b4 = b1 + 1 := ⟨_, rfl⟩
  have HB4 := Lib.hid hb4
  rw [← hb4] at HZ HGE ⊢
  clear hb1 hb4
  go_loopg [6] m (fun gk t6 wr => ∃ k : Nat, k + gk = m ∧ t6 = .int .i64 k ∧ Hid (Blk wr g (bvL (filL (pAt p ts) (fun _ => true) m k)) 4) ∧ Hid (Blk wr b1 [.int .i64 n, .slice a m cap] 24) ∧ Hid (Blk wr b4 [.int .i64 0, .slice none 0 0] 24) ∧ Hid (Below w.heap.size w wr))
  case atStart => exact ⟨0, by omega, rfl, by rw [filL_zero, range_rep]; exact HG, HK, HZ, HB⟩
  case round =>
    clear HG HK HB HZ
    obtain ⟨k, hkg, rfl, HG, HK, HZ, HB⟩ := hrel
    by_cases hlt : k < m
    · have hkl : k < ts.length := by rw [← HL.out]; exact hlt
      obtain ⟨lb, lo, rfl, hlb, x0, x1, x2, x3, x4⟩ := (HS.out.below HB.out).at hkl
      have c1 := HK.out.cell (i := 1) rfl
      have hc := HG.out.cell (bvL_get (filL_get hlt))
      have hf := HG.out.frozen k
      obtain ⟨v, hv⟩ : ∃ v, v = pAt p ts k := ⟨_, rfl⟩
      have HV : Hid (decide (s ≤ ts[k].str) = v) := by rw [Hid, hv, pAt_get hkl, HP.out]
      have HN : Hid (Blk (wr.setCell ⟨g, k, none⟩ (.bool v)) g (bvL (filL (pAt p ts) (fun _ => true) m (k + 1))) 4) := by
        have h1 := HG.out.set_ k (.bool v)
        rw [hv, bvL_set, filL_set _ _ hlt] at h1
        rw [hv]; exact h1
      have o1 : Only g wr (wr.setCell ⟨g, k, none⟩ (.bool v)) := (Only.refl g wr).set_ k _
      have HKN : Hid (Blk (wr.setCell ⟨g, k, none⟩ (.bool v)) b1 [.int .i64 n, .slice (some ⟨lb, lo, none⟩) m cap] 24) := HK.out.only o1 (by have := HGE.out; have := HB4.out; omega)
      have HZN : Hid (Blk (wr.setCell ⟨g, k, none⟩ (.bool v)) b4 [.int .i64 0, .slice none 0 0] 24) := HZ.out.only o1 (by have := HGE.out; omega)
      have HBN : Hid (Below w.heap.size w (wr.setCell ⟨g, k, none⟩ (.bool v))) := HB.out.setCell (by have := HGE.out; have := HB1.out; have := HB4.out; show w.heap.size ≤ g; omega) _
      have t1 : decide (k < m) = true := decide_eq_true hlt
      generalize ts[k].str = xs at *
      have tv : decide (s ≤ xs) = v := HV
      clear hv hkl x0 x1 x2 x4 HV hlb o1
      go_wp2_with fail
      go_roundg (gk - 1)
      case measure => omega
      case rel => exact ⟨k + 1, by omega, by simp, HN, HKN, HZN, HBN⟩
    · have e : k = m := by omega
      subst e
      have t1 : decide (k < k) = false := by simp
      have HG2 : Hid (Blk wr g (bvL (ts.map p)) 4) := by have := HG.out; rw [filL_all, HL.out, pAt_all] at this; exact this
      have c0 := HK.out.cell (i := 0) rfl
      have c1 := HK.out.cell (i := 1) rfl
      clear HG
      go_wp2_with (first | (go_at_call 48; refine (HKP.out _ _ HB.out HG2.out).mono ?_; rintro e w5 ⟨a9, c9, rfl, hT, hb5⟩; clear HKP c0 c1; have HT := Lib.hid hT; have H4 := Lib.hid (HZ.out.below hb5); have HB5 := Lib.hid (HB.out.trans (hb5.mono HB.out.size)); have HLT : Hid (b4 < wr.heap.size ∧ w.heap.size ≤ wr.heap.size ∧ w.heap.size ≤ b4) := ⟨HZ.out.lt, HB.out.size, (by have := HB1.out; have := HB4.out; omega)⟩; clear hT hb5; have d0 := H4.out.cell (i := 0) rfl; have d1 := H4.out.cell (i := 1) rfl; have f0 := H4.out.frozen 0; have f1 := H4.out.frozen 1))
      refine named (fun V => Blk V b4 [.int .i64 n, .slice a9 F.length c9] 24 ∧ TiesNew w.heap.size V a9 F ∧ Below w.heap.size w V) ?_ ?_
      · have o2 : Only b4 w5 ((w5.setCell ⟨b4, 0, none⟩ (.int .i64 n)).setCell ⟨b4, 1, none⟩ (.slice a9 F.length c9)) := ((Only.refl b4 w5).set_ 0 _).set_ 1 _
        exact ⟨(H4.out.set_ 0 _).set_ 1 _, (HT.out.only o2 HLT.out.1).mono HLT.out.2.1, (HB5.out.setCell HLT.out.2.2 _).setCell HLT.out.2.2 _⟩
      rintro V ⟨V1, V2, V3⟩
      have e0 := V1.cell (i := 0) rfl
      have e1 := V1.cell (i := 1) rfl
      refine bodyPost_ret (v := .agg #[.int .i64 n, .slice a9 F.length c9]) (by simp [results, Tryz.results56, go_sem, e0, e1]) rfl ?_
      exact ⟨a9, c9, rfl, V2, V3⟩
end Go.Proofs.YthjeiaildabadaaGreat
/- Layer 4: the specification's Strong, over kept. -/
namespace Go.Proofs.YthjeiaildabadaaGreat
set_option linter.unusedSimpArgs false
set_option linter.unusedVariables false
open Go Go.RowKit

end Go.Proofs.YthjeiaildabadaaGreat
/- Layer 4: the specification's Without, over kept. -/
namespace Go.Proofs.YthjeiaildabadaaGreat
set_option linter.unusedSimpArgs false
set_option linter.unusedVariables false
open Go Go.RowKit

def othW (BL : List Value) (m : Nat) : Word := fun v w => ∃ g, v = .slice (some ⟨g, 0, none⟩) m m ∧ Blk w g BL 4
theorem othW_lasts {w0 : World} (BL : List Value) (m : Nat) : lasts (clOld w0) (othW BL m) := fun v w w' _ hR ⟨g, hv, h⟩ => ⟨g, hv, h.below hR⟩
end Go.Proofs.YthjeiaildabadaaGreat
/- Layer 4: the specification's Add, over kept. -/
namespace Go.Proofs.YthjeiaildabadaaGreat
set_option linter.unusedSimpArgs false
set_option linter.unusedVariables false
open Go Go.RowKit

/-- A call of which one argument is known by a word, and whose result is known by a word. -/
theorem chain_call_use_re {P : Program} {ops : Array Oper} {C : Cl} {L : List Value} {K : Env → Prop} {o : Oper} {rest : List Oper} {E : Env} {d : Nat} (q2 : Word) (hq2 : lasts C q2) (k : Nat) (q : Word) (f : FuncId) (vs : Value → List Value) (xs : List Operand) (c : Call) (hf : Enters P f) (hd : o.dst = some d) (ho : o.op = .call c) (hc : c.callee = .value (.func f)) (hw : wantB ops o E L = true)
    (hq : lk E k = some (.re q)) (hl : (o.looksAt ops).contains k = true) (he : ∀ x, exB ops o ((k, .ex x) :: E) = true)
    (hxs : c.args = xs.toArray) (ha : ∀ x, xs.map (evE ((k, .ex x) :: E) L) = vs x) (h : ∀ x w, C.C w → q x w → Calls P f (vs x).toArray w fun e w' => ∃ u, e = .returned u ∧ C.R w w' ∧ q2 u w') (hk : chain P ops C L rest ((d, .re q2) :: E) K) : chain P ops C L (o :: rest) E K :=
  ⟨d, .re q2, hd, hq2, obl_re k q (fun cs b e => by rw [ho] at e; cases e) hw hq hl he fun x w hC hx => by
    rw [run_enter ho hc rfl hf, hxs, List.map_toArray, ha]
    exact h x w hC hx, hk⟩
/-- What kept does, its ties in a row of their own. -/
def KeptOwn : Prop := ∀ (p : TieD → Bool) (n : Int) (a : Option Addr) (cap g : Nat) (ts : List TieD) (w : World), ts.length ≤ 1000 → TiesAt w a ts → Blk w g (bvL (ts.map p)) 4 →
    Calls Tryz.prog 48 #[gV n a ts.length cap, .slice (some ⟨g, 0, none⟩) ts.length ts.length] w fun e w' => ∃ v, e = .returned (.agg #[.int .i64 n, v]) ∧ w'.ownsRow w.heap.size 54 5 v (ts.filter p).length (tvL (ts.filter p)) ∧ Below w.heap.size w w'
theorem KeptOwn.ok (h : KeptOwn) : KeptOk := fun p n a cap g ts w h1 h2 h3 => (h p n a cap g ts w h1 h2 h3).mono fun e w' ⟨v, he, ho, hb⟩ => by
  obtain ⟨a9, c9, rfl, _, hT⟩ := own_tiesN ho
  exact ⟨a9, c9, he, hT, hb⟩
def zvG : Value := .agg #[.int .i64 0, .slice none 0 0]
theorem zero_g : ∀ w, (zeroValue 24).run Tryz.prog w = .ok zvG w := fun w => by simp [go_sem, zvG]
def kptW (B : Nat) (n : Int) (m : Nat) (xs : List Value) : Word := fun u w => ∃ v, u = .agg #[.int .i64 n, v] ∧ w.ownsRow B 54 5 v m xs
theorem kptW_lasts {w0 : World} (B : Nat) (n : Int) (m : Nat) (xs : List Value) : lasts (clOld w0) (kptW B n m xs) := fun v w w' _ hR ⟨g, hv, h⟩ => ⟨g, hv, own_below h hR⟩
theorem own_mono {W : World} {B B' : Nat} {e : TypeId} {size : Nat} {v : Value} {n : Nat} {xs : List Value} (h : W.ownsRow B e size v n xs) (hb : B' ≤ B) : W.ownsRow B' e size v n xs :=
  ⟨h.1, h.2.imp id fun ⟨g, cap, cur, h1, h2, h3⟩ => ⟨g, cap, cur, h1, Nat.le_trans hb h2, h3⟩⟩
theorem own_ne {W : World} {B q n : Nat} {v : Value} {xs ys : List Value} (h : W.ownsRow B 54 5 v n xs) (hq : Blk W q ys 24) : v.ownBlock ≠ some q := fun e => by
  rcases h.2 with ⟨rfl, _⟩ | ⟨g, cap, cur, rfl, _, h3, _⟩
  · cases e
  · have e2 : g = q := by simpa [Value.ownBlock] using e
    subst e2
    unfold Blk at hq
    rw [hq] at h3
    injection h3 with h3
    injection h3 with _ h3
    exact absurd h3 (by decide)
theorem own_only {W W' : World} {B q n : Nat} {v : Value} {xs ys : List Value} (h : W.ownsRow B 54 5 v n xs) (hq : Blk W q ys 24) (ho : Only q W W') : W'.ownsRow B 54 5 v n xs := by
  have hne := own_ne h hq
  refine ⟨h.1, h.2.imp id fun ⟨g, cap, cur, h1, h2, h3, h4⟩ => ⟨g, cap, cur, h1, h2, (ho.1 g (Array.getElem?_eq_some_iff.1 h3).1 ?_).trans h3, h4⟩⟩
  rintro rfl
  rw [h1] at hne
  exact hne (by simp [Value.ownBlock])
def KA (w W : World) (g : List Value) (t : TieD) : Prop := Blk W w.heap.size g 24 ∧ Blk W (w.heap.size + 1) (tvC t) 54 ∧ Blk W (w.heap.size + 1 + 1) [.int .i64 0, .slice none 0 0] 24 ∧ Below w.heap.size w W
theorem KA.below {w W W' : World} {g : List Value} {t : TieD} (k : KA w W g t) (hb : Below W.heap.size W W') : KA w W' g t := ⟨k.1.below hb, k.2.1.below hb, k.2.2.1.below hb, k.2.2.2.trans (hb.mono k.2.2.2.size)⟩
theorem KA.new (w : World) (n : Int) (a : Option Addr) (m cap : Nat) (t : TieD) : KA w (((w.alloc (.cells #[.int .i64 n, .slice a m cap] 24)).alloc (.cells #[.int .i64 t.a, .int .i64 t.b, .int .i64 t.kind, .int .i64 t.str, .int .i64 t.src] 54)).alloc (.cells #[.int .i64 0, .slice none 0 0] 24)) [.int .i64 n, .slice a m cap] t := by
  have b1 := Blk.new w [.int .i64 n, .slice a m cap] 24
  have b2 := Blk.new (w.alloc (.cells #[.int .i64 n, .slice a m cap] 24)) (tvC t) 54
  have b3 := Blk.new ((w.alloc (.cells #[.int .i64 n, .slice a m cap] 24)).alloc (.cells #[.int .i64 t.a, .int .i64 t.b, .int .i64 t.kind, .int .i64 t.str, .int .i64 t.src] 54)) [.int .i64 0, .slice none 0 0] 24
  refine ⟨(b1.block (Below.heap_alloc _ _ _ (by simp))).block (Below.heap_alloc _ _ _ (by simp; omega)), ?_, ?_, (((Below.refl _ _).alloc (Nat.le_refl _) _).alloc (by simp) _).alloc (by simp; omega) _⟩
  · have := b2.block (Below.heap_alloc _ (.cells #[.int .i64 0, .slice none 0 0] 24) _ b2.lt)
    simpa [tvC] using this
  · simpa using b3
def addR (n : Int) (ts : List TieD) (t : TieD) : GR := if okG n ts then (if tieB t n then (if ts.length = 512 then ⟨0, [], 2⟩ else ⟨n, ts ++ [t], 0⟩) else ⟨0, [], 1⟩) else ⟨0, [], 40⟩
end Go.Proofs.YthjeiaildabadaaGreat
