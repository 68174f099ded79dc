/- For all sets and all lists of sets, Cover and Hit match the specification: the law BitsCovers returns true. Conditions: the listed variables of Go's library hold what their text lays. -/
import Derived.Test.YtjifajigigflkaaDoorQg
import Derived.Laws.AppendOwnNone
import Derived.Deep.Cut
import Derived.Maps.AppendAt
import Derived.Test.YtjifajigigflkaaDoorQe
import Derived.ChangeSlices
import Derived.Carry
namespace Go.Proofs.YtjifajigigflkaaDoor
set_option linter.unusedSimpArgs false
set_option linter.unusedVariables false
open Go Go.RowKit

/-- The numbers of l with rest j. -/
def partB (P : Nat) (l : List Nat) (j : Nat) : Nat := l.foldl (fun s x => if x % P = j then s ||| 2 ^ x else s) 0
theorem partB_snoc (P : Nat) (l : List Nat) (x : Nat) : updN (partB P l) (x % P) (partB P l (x % P) ||| 2 ^ x) = partB P (l ++ [x]) := by
  funext j
  unfold updN partB
  rw [List.foldl_append]
  simp only [List.foldl_cons, List.foldl_nil]
  by_cases h : j = x % P
  · subst h; simp
  · rw [if_neg h, if_neg (fun e => h e.symm)]
theorem partB_bit (P : Nat) (j n : Nat) : ∀ l : List Nat, (partB P l j).testBit n = true ↔ n ∈ l ∧ n % P = j := by
  have key : ∀ (l : List Nat) (s : Nat), (l.foldl (fun s x => if x % P = j then s ||| 2 ^ x else s) s).testBit n = true ↔ s.testBit n = true ∨ (n ∈ l ∧ n % P = j) := by
    intro l
    induction l with
    | nil => intro s; simp
    | cons x l ih =>
      intro s
      rw [List.foldl_cons, ih]
      by_cases h : x % P = j
      · rw [if_pos h, Nat.testBit_or, Nat.testBit_two_pow]
        simp only [Bool.or_eq_true, decide_eq_true_eq, List.mem_cons]
        constructor
        · rintro ((h1 | h1) | h1)
          · exact .inl h1
          · exact .inr ⟨.inl h1.symm, by rw [← h1]; exact h⟩
          · exact .inr ⟨.inr h1.1, h1.2⟩
        · rintro (h1 | ⟨h1 | h1, h2⟩)
          · exact .inl (.inl h1)
          · exact .inl (.inr h1.symm)
          · exact .inr ⟨h1, h2⟩
      · rw [if_neg h]
        simp only [List.mem_cons]
        constructor
        · rintro (h1 | h1)
          · exact .inl h1
          · exact .inr ⟨.inr h1.1, h1.2⟩
        · rintro (h1 | ⟨h1 | h1, h2⟩)
          · exact .inl h1
          · rw [h1] at h2; exact absurd h2 h
          · exact .inr ⟨h1, h2⟩
  intro l
  unfold partB
  rw [key]
  simp
theorem partB_lt {P : Nat} {l : List Nat} (hl : ∀ x ∈ l, x < 256) (j : Nat) : partB P l j < 2 ^ 256 := by
  apply Nat.lt_pow_two_of_testBit
  intro i hi
  cases h : (partB P l j).testBit i with
  | false => rfl
  | true => have := hl i ((partB_bit P j i l).1 h).1; omega
/-- The sets of all rests. -/
def partL (P N : Nat) : List Nat := (List.range P).map (partB P (mem N))
theorem partL_length (P N : Nat) : (partL P N).length = P := by simp [partL]
theorem partL_get (P N i : Nat) (h : i < P) : (partL P N)[i]? = some (partB P (mem N) i) := by simp [partL, h]
theorem partL_getD (P N i : Nat) (h : i < P) : (partL P N).getD i 0 = partB P (mem N) i := by rw [List.getD_eq_getElem?_getD, partL_get P N i h]; rfl
theorem mem_lt7 {N x : Nat} (h : x ∈ mem N) : x < 256 := by have := (memF_iff.1 h).2.1; omega
/-- Which rests there are, below i. -/
def restL (P N i : Nat) : List Nat := (List.range' 0 i).filter fun j => decide ((partL P N).getD j 0 ≠ 0)
theorem restL_succ (P N i : Nat) : restL P N (i + 1) = if (partL P N).getD i 0 = 0 then restL P N i else restL P N i ++ [i] := by
  unfold restL
  rw [List.range'_1_concat, List.filter_append, Nat.zero_add]
  by_cases h : (partL P N).getD i 0 = 0
  · rw [if_pos h]
    rw [List.getD_eq_getElem?_getD] at h
    simp [h]
  · rw [if_neg h]
    rw [List.getD_eq_getElem?_getD] at h
    simp [h]
theorem restL_len (P N i : Nat) : (restL P N i).length ≤ i := by
  unfold restL
  exact Nat.le_trans (List.length_filter_le _ _) (by simp)
theorem cov_rests {P N : Nat} (hN : N < 2 ^ 256) (hP : 0 < P) : cov (partL P N) P N 0 = some (restL P N P) := by
  refine cov_parts (fun i j hij hj => ?_) P N 0 (by rw [partL_length]; omega) fun n => ?_
  · rw [partL_length] at hj
    rw [partL_getD P N i (by omega), partL_getD P N j hj]
    apply Nat.eq_of_testBit_eq; intro n
    rw [Nat.testBit_and, Nat.zero_testBit]
    cases h1 : (partB P (mem N) i).testBit n with
    | false => rfl
    | true =>
      cases h2 : (partB P (mem N) j).testBit n with
      | false => rfl
      | true =>
        have a1 := ((partB_bit P i n (mem N)).1 h1).2
        have a2 := ((partB_bit P j n (mem N)).1 h2).2
        omega
  · rw [partL_length]
    constructor
    · intro h
      refine ⟨n % P, Nat.zero_le _, Nat.mod_lt _ hP, ?_⟩
      rw [partL_getD P N _ (Nat.mod_lt _ hP), partB_bit]
      exact ⟨(mem_iff hN).2 h, rfl⟩
    · rintro ⟨j, _, hj, h⟩
      rw [partL_getD P N j hj, partB_bit] at h
      exact (mem_iff hN).1 h.1
theorem card_zero {x : Nat} (hx : x < 2 ^ 256) : card x = 0 ↔ x = 0 := by
  constructor
  · intro h
    rw [← mem_card] at h
    have hm : mem x = [] := List.length_eq_zero_iff.1 h
    apply zero_of_bits hx
    intro i hi
    cases hb : x.testBit i with
    | false => rfl
    | true => have := (mem_iff hx).2 hb; rw [hm] at this; cases this
  · rintro rfl; decide +kernel
/-! ### The table in memory -/
theorem beA_cells {W : World} {b M : Nat} {be : Nat → Nat} (h : Blk W b (beA M be) 25) {r : Nat} (hr : r < M) : W.cell? ⟨b, r * 4, none⟩ = some (.int .u64 (word (be r) 0)) ∧ W.cell? ⟨b, r * 4 + 1, none⟩ = some (.int .u64 (word (be r) 1)) ∧ W.cell? ⟨b, r * 4 + 2, none⟩ = some (.int .u64 (word (be r) 2)) ∧ W.cell? ⟨b, r * 4 + 3, none⟩ = some (.int .u64 (word (be r) 3)) ∧ ∀ i, W.frozen? ⟨b, i, none⟩ = false := by
  refine ⟨?_, ?_, ?_, ?_, fun i => h.frozen i⟩
  · rw [h.cell, beA_get M be _ (by omega), show r * 4 / 4 = r by omega, show r * 4 % 4 = 0 by omega]
  · rw [h.cell, beA_get M be _ (by omega), show (r * 4 + 1) / 4 = r by omega, show (r * 4 + 1) % 4 = 1 by omega]
  · rw [h.cell, beA_get M be _ (by omega), show (r * 4 + 2) / 4 = r by omega, show (r * 4 + 2) % 4 = 2 by omega]
  · rw [h.cell, beA_get M be _ (by omega), show (r * 4 + 3) / 4 = r by omega, show (r * 4 + 3) % 4 = 3 by omega]
theorem beA_put {W : World} {b M : Nat} {be : Nat → Nat} (h : Blk W b (beA M be) 25) {r : Nat} (hr : r < M) (s : Nat) :
    Blk ((((W.setCell ⟨b, r * 4, none⟩ (.int .u64 ↑(word s 0))).setCell ⟨b, r * 4 + 1, none⟩ (.int .u64 ↑(word s 1))).setCell ⟨b, r * 4 + 2, none⟩ (.int .u64 ↑(word s 2))).setCell ⟨b, r * 4 + 3, none⟩ (.int .u64 ↑(word s 3))) b (beA M (updN be r s)) 25 := by
  have := (((h.set (r * 4) (.int .u64 ↑(word s 0))).set (r * 4 + 1) (.int .u64 ↑(word s 1))).set (r * 4 + 2) (.int .u64 ↑(word s 2))).set (r * 4 + 3) (.int .u64 ↑(word s 3))
  rwa [beA_set M be r s hr] at this
theorem beA_sets {W : World} {b P N : Nat} (h : Blk W b (beA P (partB P (mem N))) 25) : SetCells W (some ⟨b, 0, none⟩) (partL P N) := by
  refine .inr ⟨b, 0, rfl, fun i M hi j hj => ?_⟩
  have hi' : i < P := by have := (List.getElem?_eq_some_iff.1 hi).1; rwa [partL_length] at this
  rw [partL_get P N i hi'] at hi
  obtain rfl := Option.some.inj hi
  rw [h.cell, beA_get P _ _ (by omega), show (0 + i * 4 + j) / 4 = i by omega, show (0 + i * 4 + j) % 4 = j by omega]
theorem below_putr {B : Nat} {w w' : World} {b : Nat} (h : Below B w w') (hb : B ≤ b) (i j k l : Nat) (x y z u : Value) : Below B w ((((w'.setCell ⟨b, i, none⟩ x).setCell ⟨b, j, none⟩ y).setCell ⟨b, k, none⟩ z).setCell ⟨b, l, none⟩ u) :=
  (((h.setCell (p := ⟨b, i, none⟩) hb x).setCell (p := ⟨b, j, none⟩) hb y).setCell (p := ⟨b, k, none⟩) hb z).setCell (p := ⟨b, l, none⟩) hb u
theorem Blk.otherr {W : World} {b c : Nat} {cs : Array Value} {t : TypeId} (h : Blk W b cs t) (hne : b ≠ c) (i j k l : Nat) (x y z u : Value) : Blk ((((W.setCell ⟨c, i, none⟩ x).setCell ⟨c, j, none⟩ y).setCell ⟨c, k, none⟩ z).setCell ⟨c, l, none⟩ u) b cs t :=
  (((h.other ⟨c, i, none⟩ x hne).other ⟨c, j, none⟩ y hne).other ⟨c, k, none⟩ z hne).other ⟨c, l, none⟩ u hne
end Go.Proofs.YtjifajigigflkaaDoor
namespace Go.Proofs.YtjifajigigflkaaDoor
set_option linter.unusedSimpArgs false
set_option linter.unusedVariables false
open Go Go.RowKit
attribute [local go_sem] equalIn_words setV equalIn_zero

/-- What cover returns. -/
def RcPost (o : Option (List Nat)) (B : Nat) (e : Ending) (w' : World) : Prop := match o with
  | none => e = .returned (.tuple #[.slice none 0 0, .bool false])
  | some q => ∃ v, e = .returned (.tuple #[v, .bool true]) ∧ w'.ownsRow B 3 1 v q.length (intsL q)
theorem eql_set0 (t : TypeId) (x y : Operand) (N : Nat) (p : Bool) (h : eqS N 0 = p) (w : World) :
    (do eqGuard .eql 25 x y (setV N) (setV 0); binOp .eql 25 (setV N) (setV 0) : Sem Value).run Tryd.prog w = .ok (.bool p) w := by
  subst h
  simp [go_sem, word_zero]
theorem neq_set0 (x y : Operand) (N : Nat) (p : Bool) (h : eqS N 0 = p) (w : World) :
    (do eqGuard .neq 25 x y (setV N) (setV 0); binOp .neq 25 (setV N) (setV 0) : Sem Value).run Tryd.prog w = .ok (.bool (!p)) w := by
  subst h
  simp [go_sem, word_zero]
theorem add_i (t : TypeId) (x y : Operand) (k : Nat) (hk : k < 9223372036854775807) (w : World) :
    (do eqGuard .add t x y (.int .i64 k) (.int .i64 1); binOp .add t (.int .i64 k) (.int .i64 1) : Sem Value).run Tryd.prog w = .ok (.int .i64 ((k + 1 : Nat) : Int)) w := by
  have h1 : IntKind.i64.wrap ((k : Int) + 1) = ((k : Int) + 1) := IntWalk.i64_in _ (by omega)
  simp [go_sem, h1]
theorem owns_new1 {w : World} {B : Nat} (hB : B ≤ w.heap.size) (i : Int) : (w.alloc (.cells #[.int .i64 i] 3)).ownsRow B 3 1 (.slice (some ⟨w.heap.size, 0, none⟩) 1 1) 1 [.int .i64 i] :=
  ⟨rfl, .inr ⟨w.heap.size, 1, #[.int .i64 i], rfl, hB, World.alloc_heap_new w _, by omega, by simp [maxLen], rfl, rfl⟩⟩
theorem cells_add {W : World} {g : Nat} {vs : List Value} (h : Cells W (some ⟨g, 0, none⟩) vs) (j : Nat) (u : Value) (hj : vs[j]? = some u) : W.cell? ((⟨g, 0, none⟩ : Addr).add j) = some u := by
  have e : (⟨g, 0, none⟩ : Addr).add j = ⟨g, 0 + j, none⟩ := by unfold Addr.add; split <;> simp_all
  rcases h with h | ⟨b, o, ha, hc⟩
  · rw [h] at hj; cases hj
  · cases ha
    rw [e]; exact hc j u hj
/-- What the loop keeps. -/
def RcS (w : World) (R : Nat) (W : World) : Prop := Blk W w.heap.size (setA R) 25 ∧ Below w.heap.size w W
theorem RcS.below {w W W' : World} {R : Nat} (h : RcS w R W) (hb : Below W.heap.size W W') : RcS w R W' := ⟨h.1.below hb h.1.lt, h.2.trans (hb.mono h.2.size)⟩
theorem RcS.old {w W W' : World} {R : Nat} (h : RcS w R W) (hC : (clOld W.drew).C W') : RcS w R W' := h.below ((Below.refl _ W).drew.trans hC)
set_option maxRecDepth 100000 in
set_option maxHeartbeats 4000000 in
theorem rcover_any (a : Option Addr) (cap : Nat) (ls : List Nat) (hls : ∀ N ∈ ls, N < 2 ^ 256) (hlen : ls.length ≤ 100) :
    ∀ (f i R : Nat) (w : World), i + f = ls.length → R < 2 ^ 256 → SetCells w a ls → (∀ ad, a = some ad → ad.block < w.heap.size) →
    Calls Tryd.prog 75 #[setV R, .slice a ls.length cap, .int .i64 i] w fun e w' => RcPost (cov ls f R i) w.heap.size e w' ∧ Below w.heap.size w w' := by
  intro f
  induction f using Nat.strongRecOn with
  | _ f ih =>
    intro i R w hi hR hs ho
    have HS := Lib.hid hs
    have HO := Lib.hid ho
    have HLS := Lib.hid hls
    have HRL := Lib.hid hR
    have IH := Lib.hid ih
    obtain ⟨n, hn⟩ : ∃ n, n = ls.length := ⟨_, rfl⟩
    rw [← hn] at hlen hi ⊢
    have HN := Lib.hid hn
    clear hs ho ih hls
    by_cases hR0 : R = 0
    · have HQ : Hid (cov ls f R i = some []) := by rw [Hid, hR0, cov_zero]
      have he0 : eqS R 0 = true := by rw [eqS_zero hR]; simpa using hR0
      clear hR0 hR hn
      go_enter Tryd.func75, Tryd.ntmps75
      simp only [setV]
      go_wp2_with fail
      go_ret2
      refine ⟨?_, below_new1 _ _⟩
      rw [HQ.out]
      exact ⟨_, rfl, World.ownsRow_nil _ _ _ _⟩
    · have he0 : eqS R 0 = false := by rw [eqS_zero hR]; simpa using hR0
      have HR0 := Lib.hid hR0
      clear hR0 hR hn
      go_enter Tryd.func75, Tryd.ntmps75
      simp only [setV]
      go_wp2_with fail
      go_loopw [8] (fun ti wr => ∃ k : Nat, i ≤ k ∧ k ≤ n ∧ ti = .int .i64 k ∧ Hid (cov ls f R i = cov ls (n - k) R k) ∧ RcS w R wr) (fun ti _ => n - (intOf ti).toNat)
      case atStart => exact ⟨i, Nat.le_refl _, by omega, rfl, by rw [Hid, show n - i = f by omega], Blk.newW _ _ _, below_new1 _ _⟩
      case round =>
        obtain ⟨k, hik, hk, rfl, HC, hF⟩ := hrel
        have F := Lib.hid hF
        clear hF
        by_cases hlt : k < n
        · have hkl : k < ls.length := by rw [← HN.out]; exact hlt
          obtain ⟨lb, lo, ha, _⟩ := HS.out.at hkl
          subst ha
          obtain ⟨M, hM⟩ : ∃ M, M = ls.getD k 0 := ⟨_, rfl⟩
          have HMM := Lib.hid hM
          have HML : Hid (M < 2 ^ 256) := by
            rw [Hid, hM, List.getD_eq_getElem?_getD, List.getElem?_eq_getElem hkl]
            exact HLS.out _ (List.getElem_mem _)
          have HLD : Hid (∀ W, RcS w R W → (Instr.loadAt 25 (.pointer (some ⟨lb, lo + k * 4, none⟩))).run Tryd.prog W = .ok (setV M) W) := fun W h => by
            obtain ⟨lb', lo', he, hc⟩ := (HS.out.below HO.out h.2).at hkl
            simp only [Option.some.injEq, Addr.mk.injEq, and_true] at he
            obtain ⟨rfl, rfl⟩ := he
            rw [hM, List.getD_eq_getElem?_getD, List.getElem?_eq_getElem hkl]
            exact load_setp hc
          have HST : Hid (cov ls (n - k) R k = cov ls (n - (k + 1) + 1) R k) := by rw [Hid, show n - (k + 1) + 1 = n - k by omega]
          clear hM
          by_cases hz : M = 0
          · have Q1 : Hid (eqS M 0 = true) := by rw [Hid, eqS_zero HML.out]; simpa using hz
            have HNX : Hid (cov ls f R i = cov ls (n - (k + 1)) R (k + 1)) := by
              rw [Hid, HC.out, HST.out, cov_skip HR0.out (.inl (by rw [← HMM.out]; exact hz))]
            clear hz
            go_upto_region 6 with (fail)
            refine wp_region_old 14 53 (by kernel_rfl) (by kernel_rfl) (by rfl) ?_
            simp only [List.take_succ_cons, List.take_zero, List.drop_succ_cons, List.drop_zero, List.drop_nil]
            refine chain_move (.slice (some ⟨lb, lo, none⟩) n cap) _ (fun _ _ => Below.refl _ _) rfl rfl (by kernel_rfl) (by kernel_rfl) rfl ?_
            refine chain_move (.int .i64 k) _ (fun _ _ => Below.refl _ _) rfl rfl (by kernel_rfl) (by kernel_rfl) rfl ?_
            refine chain_idx (.pointer (some ⟨lb, lo + k * 4, none⟩)) _ _ _ (.slice (some ⟨lb, lo, none⟩) n cap) (.int .i64 k) (fun _ _ => Below.refl _ _) rfl rfl (by kernel_rfl) (by kernel_rfl) rfl rfl (fun w1 => idx_setp _ _ _ _ _ hlt w1) ?_
            refine chain_load (setV M) _ _ _ (fun _ _ => Below.refl _ _) rfl rfl (by kernel_rfl) (by kernel_rfl) rfl (fun w1 hC => HLD.out w1 (F.out.old hC)) ?_
            refine chain_val (setV 0) (fun _ _ => Below.refl _ _) rfl (by intro cs b h; cases h) (by kernel_rfl) (by kernel_rfl) (fun w _ => run_build0 rfl w) ?_
            refine chain_bin (.bool false) _ _ _ _ _ (setV M) (setV 0) (fun _ _ => Below.refl _ _) rfl rfl (by kernel_rfl) (by kernel_rfl) rfl rfl (fun w1 => neq_set0 _ _ M true Q1.out w1) ?_
            refine chain_move (.bool false) _ (fun _ _ => Below.refl _ _) rfl rfl (by kernel_rfl) (by kernel_rfl) rfl ?_
            refine chain_skip rfl (by kernel_rfl) ?_
            refine chain_skip rfl (by kernel_rfl) ?_
            refine chain_skip rfl (by kernel_rfl) ?_
            refine chain_skip rfl (by kernel_rfl) ?_
            refine chain_skip rfl (by kernel_rfl) ?_
            refine chain_skip rfl (by kernel_rfl) ?_
            refine chain_pick (.bool false) _ _ _ false (fun _ _ => Below.refl _ _) rfl rfl (by kernel_rfl) (by kernel_rfl) rfl rfl ?_
            refine chain_end (by rfl) ?_
            intro xs w6 hCw6 hrew6
            simp only [layE, List.foldr_cons, List.foldr_nil, List.set_cons_succ, List.set_cons_zero]
            have F6 := Lib.hid (F.out.old hCw6)
            clear hCw6 hrew6 F
            go_wp2_with fail
            exact ⟨⟨k + 1, by omega, by omega, by simp, HNX.out, F6.out⟩, by simp [intOf]; omega⟩
          · have Q1 : Hid (eqS M 0 = false) := by rw [Hid, eqS_zero HML.out]; simpa using hz
            have HMZ := Lib.hid hz
            clear hz
            have HWi : Hid (∀ w, Calls Tryd.prog 40 #[setV M, setV R] w fun e w' => e = .returned (.bool (eqS (diff M R) 0)) ∧ Below w.heap.size w w') := fun w => rWithin_any M R w HML.out HRL.out
            obtain ⟨z, hz⟩ : ∃ z, z = eqS (diff M R) 0 := ⟨_, rfl⟩
            rw [← hz] at HWi
            cases z with
            | false =>
              have HNX : Hid (cov ls f R i = cov ls (n - (k + 1)) R (k + 1)) := by
                rw [Hid, HC.out, HST.out, cov_skip HR0.out (.inr (by rw [← HMM.out]; intro e; rw [e] at hz; revert hz; decide))]
              clear hz
              go_upto_region 6 with (fail)
              refine wp_region_old 14 53 (by kernel_rfl) (by kernel_rfl) (by rfl) ?_
              simp only [List.take_succ_cons, List.take_zero, List.drop_succ_cons, List.drop_zero, List.drop_nil]
              refine chain_move (.slice (some ⟨lb, lo, none⟩) n cap) _ (fun _ _ => Below.refl _ _) rfl rfl (by kernel_rfl) (by kernel_rfl) rfl ?_
              refine chain_move (.int .i64 k) _ (fun _ _ => Below.refl _ _) rfl rfl (by kernel_rfl) (by kernel_rfl) rfl ?_
              refine chain_idx (.pointer (some ⟨lb, lo + k * 4, none⟩)) _ _ _ (.slice (some ⟨lb, lo, none⟩) n cap) (.int .i64 k) (fun _ _ => Below.refl _ _) rfl rfl (by kernel_rfl) (by kernel_rfl) rfl rfl (fun w1 => idx_setp _ _ _ _ _ hlt w1) ?_
              refine chain_load (setV M) _ _ _ (fun _ _ => Below.refl _ _) rfl rfl (by kernel_rfl) (by kernel_rfl) rfl (fun w1 hC => HLD.out w1 (F.out.old hC)) ?_
              refine chain_val (setV 0) (fun _ _ => Below.refl _ _) rfl (by intro cs b h; cases h) (by kernel_rfl) (by kernel_rfl) (fun w _ => run_build0 rfl w) ?_
              refine chain_bin (.bool true) _ _ _ _ _ (setV M) (setV 0) (fun _ _ => Below.refl _ _) rfl rfl (by kernel_rfl) (by kernel_rfl) rfl rfl (fun w1 => neq_set0 _ _ M false Q1.out w1) ?_
              refine chain_move (.bool true) _ (fun _ _ => Below.refl _ _) rfl rfl (by kernel_rfl) (by kernel_rfl) rfl ?_
              refine chain_move (.slice (some ⟨lb, lo, none⟩) n cap) _ (fun _ _ => Below.refl _ _) rfl rfl (by kernel_rfl) (by kernel_rfl) rfl ?_
              refine chain_move (.int .i64 k) _ (fun _ _ => Below.refl _ _) rfl rfl (by kernel_rfl) (by kernel_rfl) rfl ?_
              refine chain_idx (.pointer (some ⟨lb, lo + k * 4, none⟩)) _ _ _ (.slice (some ⟨lb, lo, none⟩) n cap) (.int .i64 k) (fun _ _ => Below.refl _ _) rfl rfl (by kernel_rfl) (by kernel_rfl) rfl rfl (fun w1 => idx_setp _ _ _ _ _ hlt w1) ?_
              refine chain_load (setV M) _ _ _ (fun _ _ => Below.refl _ _) rfl rfl (by kernel_rfl) (by kernel_rfl) rfl (fun w1 hC => HLD.out w1 (F.out.old hC)) ?_
              refine chain_load (setV R) _ _ _ (fun _ _ => Below.refl _ _) rfl rfl (by kernel_rfl) (by kernel_rfl) rfl (fun w1 hC => load_set (F.out.old hC).1) ?_
              refine chain_call (.bool false) 40 [setV M, setV R] _ _ (enters_of Tryd.func40 (by kernel_rfl) rfl) rfl rfl rfl (by kernel_rfl) (by kernel_rfl) rfl rfl (fun w1 _ => HWi.out w1) ?_
              refine chain_pick (.bool false) _ _ _ true (fun _ _ => Below.refl _ _) rfl rfl (by kernel_rfl) (by kernel_rfl) rfl rfl ?_
              refine chain_end (by rfl) ?_
              intro xs w6 hCw6 hrew6
              simp only [layE, List.foldr_cons, List.foldr_nil, List.set_cons_succ, List.set_cons_zero]
              have F6 := Lib.hid (F.out.old hCw6)
              clear hCw6 hrew6 F
              go_wp2_with fail
              exact ⟨⟨k + 1, by omega, by omega, by simp, HNX.out, F6.out⟩, by simp [intOf]; omega⟩
            | true =>
              have hdz : diff M R = 0 := (eqS_iff (diff_lt HML.out) (by decide)).1 hz.symm
              have HSU : Hid (¬ (ls.getD k 0 = 0 ∨ diff (ls.getD k 0) R ≠ 0)) := by
                rw [Hid, ← HMM.out]
                exact fun e => e.elim HMZ.out fun e => e hdz
              clear hz hdz
              obtain ⟨D, hD⟩ : ∃ D, D = diff R M := ⟨_, rfl⟩
              have HMi : Hid (∀ w, Calls Tryd.prog 36 #[setV R, setV M] w fun e w' => e = .returned (setV D) ∧ Below w.heap.size w w') := fun w => by rw [hD]; exact rMinus_any R M w HRL.out HML.out
              have HRec : Hid (∀ W, Below w.heap.size w W → Calls Tryd.prog 75 #[setV D, .slice (some ⟨lb, lo, none⟩) n cap, .int .i64 ((k + 1 : Nat) : Int)] W fun e w' => RcPost (cov ls (n - (k + 1)) D (k + 1)) W.heap.size e w' ∧ Below W.heap.size W w') := fun W hb => by
                have := IH.out (n - (k + 1)) (by omega) (k + 1) D W (by rw [← HN.out]; omega) (by rw [hD]; exact diff_lt HRL.out) (HS.out.below HO.out hb) (fun ad e => Nat.lt_of_lt_of_le (HO.out ad e) hb.size)
                rwa [← HN.out] at this
              have HDD : Hid (D = diff R (ls.getD k 0)) := by rw [Hid, hD, HMM.out]
              clear hD
              go_upto_region 6 with (fail)
              refine wp_region_old 14 53 (by kernel_rfl) (by kernel_rfl) (by rfl) ?_
              simp only [List.take_succ_cons, List.take_zero, List.drop_succ_cons, List.drop_zero, List.drop_nil]
              refine chain_move (.slice (some ⟨lb, lo, none⟩) n cap) _ (fun _ _ => Below.refl _ _) rfl rfl (by kernel_rfl) (by kernel_rfl) rfl ?_
              refine chain_move (.int .i64 k) _ (fun _ _ => Below.refl _ _) rfl rfl (by kernel_rfl) (by kernel_rfl) rfl ?_
              refine chain_idx (.pointer (some ⟨lb, lo + k * 4, none⟩)) _ _ _ (.slice (some ⟨lb, lo, none⟩) n cap) (.int .i64 k) (fun _ _ => Below.refl _ _) rfl rfl (by kernel_rfl) (by kernel_rfl) rfl rfl (fun w1 => idx_setp _ _ _ _ _ hlt w1) ?_
              refine chain_load (setV M) _ _ _ (fun _ _ => Below.refl _ _) rfl rfl (by kernel_rfl) (by kernel_rfl) rfl (fun w1 hC => HLD.out w1 (F.out.old hC)) ?_
              refine chain_val (setV 0) (fun _ _ => Below.refl _ _) rfl (by intro cs b h; cases h) (by kernel_rfl) (by kernel_rfl) (fun w _ => run_build0 rfl w) ?_
              refine chain_bin (.bool true) _ _ _ _ _ (setV M) (setV 0) (fun _ _ => Below.refl _ _) rfl rfl (by kernel_rfl) (by kernel_rfl) rfl rfl (fun w1 => neq_set0 _ _ M false Q1.out w1) ?_
              refine chain_move (.bool true) _ (fun _ _ => Below.refl _ _) rfl rfl (by kernel_rfl) (by kernel_rfl) rfl ?_
              refine chain_move (.slice (some ⟨lb, lo, none⟩) n cap) _ (fun _ _ => Below.refl _ _) rfl rfl (by kernel_rfl) (by kernel_rfl) rfl ?_
              refine chain_move (.int .i64 k) _ (fun _ _ => Below.refl _ _) rfl rfl (by kernel_rfl) (by kernel_rfl) rfl ?_
              refine chain_idx (.pointer (some ⟨lb, lo + k * 4, none⟩)) _ _ _ (.slice (some ⟨lb, lo, none⟩) n cap) (.int .i64 k) (fun _ _ => Below.refl _ _) rfl rfl (by kernel_rfl) (by kernel_rfl) rfl rfl (fun w1 => idx_setp _ _ _ _ _ hlt w1) ?_
              refine chain_load (setV M) _ _ _ (fun _ _ => Below.refl _ _) rfl rfl (by kernel_rfl) (by kernel_rfl) rfl (fun w1 hC => HLD.out w1 (F.out.old hC)) ?_
              refine chain_load (setV R) _ _ _ (fun _ _ => Below.refl _ _) rfl rfl (by kernel_rfl) (by kernel_rfl) rfl (fun w1 hC => load_set (F.out.old hC).1) ?_
              refine chain_call (.bool true) 40 [setV M, setV R] _ _ (enters_of Tryd.func40 (by kernel_rfl) rfl) rfl rfl rfl (by kernel_rfl) (by kernel_rfl) rfl rfl (fun w1 _ => HWi.out w1) ?_
              refine chain_pick (.bool true) _ _ _ true (fun _ _ => Below.refl _ _) rfl rfl (by kernel_rfl) (by kernel_rfl) rfl rfl ?_
              refine chain_end (by rfl) ?_
              intro xs w6 hCw6 hrew6
              simp only [layE, List.foldr_cons, List.foldr_nil, List.set_cons_succ, List.set_cons_zero]
              have F6 := Lib.hid (F.out.old hCw6)
              clear hCw6 hrew6 F HWi
              go_upto_region 7 with (fail)
              cases hq : cov ls (n - (k + 1)) D (k + 1) with
              | none =>
                have HR1 : Hid (∀ W, Below w.heap.size w W → Calls Tryd.prog 75 #[setV D, .slice (some ⟨lb, lo, none⟩) n cap, .int .i64 ((k + 1 : Nat) : Int)] W fun e w' => e = .returned (.tuple #[.slice none 0 0, .bool false]) ∧ Below W.heap.size W w') := fun W hb => by
                  have := HRec.out W hb
                  rw [hq] at this
                  exact this
                have HNX : Hid (cov ls f R i = cov ls (n - (k + 1)) R (k + 1)) := by
                  rw [Hid, HC.out, HST.out, cov_drop HR0.out HSU.out (by rw [← HDD.out]; exact hq)]
                clear hq HRec
                refine wp_region_old 15 53 (by kernel_rfl) (by kernel_rfl) (by rfl) ?_
                simp only [List.take_succ_cons, List.take_zero, List.drop_succ_cons, List.drop_zero, List.drop_nil]
                refine chain_load (setV R) _ _ _ (fun _ _ => Below.refl _ _) rfl rfl (by kernel_rfl) (by kernel_rfl) rfl (fun w1 hC => load_set (F6.out.old hC).1) ?_
                refine chain_move (.slice (some ⟨lb, lo, none⟩) n cap) _ (fun _ _ => Below.refl _ _) rfl rfl (by kernel_rfl) (by kernel_rfl) rfl ?_
                refine chain_move (.int .i64 k) _ (fun _ _ => Below.refl _ _) rfl rfl (by kernel_rfl) (by kernel_rfl) rfl ?_
                refine chain_idx (.pointer (some ⟨lb, lo + k * 4, none⟩)) _ _ _ (.slice (some ⟨lb, lo, none⟩) n cap) (.int .i64 k) (fun _ _ => Below.refl _ _) rfl rfl (by kernel_rfl) (by kernel_rfl) rfl rfl (fun w1 => idx_setp _ _ _ _ _ hlt w1) ?_
                refine chain_load (setV M) _ _ _ (fun _ _ => Below.refl _ _) rfl rfl (by kernel_rfl) (by kernel_rfl) rfl (fun w1 hC => HLD.out w1 (F6.out.old hC)) ?_
                refine chain_call (setV D) 36 [setV R, setV M] _ _ (enters_of Tryd.func36 (by kernel_rfl) rfl) rfl rfl rfl (by kernel_rfl) (by kernel_rfl) rfl rfl (fun w1 _ => HMi.out w1) ?_
                refine chain_move (.slice (some ⟨lb, lo, none⟩) n cap) _ (fun _ _ => Below.refl _ _) rfl rfl (by kernel_rfl) (by kernel_rfl) rfl ?_
                refine chain_move (.int .i64 k) _ (fun _ _ => Below.refl _ _) rfl rfl (by kernel_rfl) (by kernel_rfl) rfl ?_
                refine chain_bin (.int .i64 ((k + 1 : Nat) : Int)) _ _ _ _ _ (.int .i64 k) (.int .i64 1) (fun _ _ => Below.refl _ _) rfl rfl (by kernel_rfl) (by kernel_rfl) rfl rfl (fun w1 => add_i _ _ _ k (by omega) w1) ?_
                refine chain_call (.tuple #[.slice none 0 0, .bool false]) 75 [setV D, .slice (some ⟨lb, lo, none⟩) n cap, .int .i64 ((k + 1 : Nat) : Int)] _ _ (enters_of Tryd.func75 (by kernel_rfl) rfl) rfl rfl rfl (by kernel_rfl) (by kernel_rfl) rfl rfl (fun w1 hC => HR1.out w1 (F6.out.old hC).2) ?_
                refine chain_move (.tuple #[.slice none 0 0, .bool false]) _ (fun _ _ => Below.refl _ _) rfl rfl (by kernel_rfl) (by kernel_rfl) rfl ?_
                refine chain_ext (.slice none 0 0) _ _ (#[.slice none 0 0, .bool false]) (fun _ _ => Below.refl _ _) rfl rfl (by kernel_rfl) (by kernel_rfl) rfl rfl ?_
                refine chain_ext (.bool false) _ _ (#[.slice none 0 0, .bool false]) (fun _ _ => Below.refl _ _) rfl rfl (by kernel_rfl) (by kernel_rfl) rfl rfl ?_
                refine chain_assign (.slice none 0 0) _ (fun _ _ => Below.refl _ _) rfl rfl (by kernel_rfl) (by kernel_rfl) rfl ?_
                refine chain_assign (.bool false) _ (fun _ _ => Below.refl _ _) rfl rfl (by kernel_rfl) (by kernel_rfl) rfl ?_
                refine chain_end (by rfl) ?_
                intro xs w7 hCw7 hrew7
                simp only [layE, List.foldr_cons, List.foldr_nil, List.set_cons_succ, List.set_cons_zero]
                have F7 := Lib.hid (F6.out.old hCw7)
                clear hCw7 hrew7 F6 HMi
                go_wp2_with fail
                exact ⟨⟨k + 1, by omega, by omega, by simp, HNX.out, F7.out⟩, by simp [intOf]; omega⟩
              | some q =>
                have HR1 : Hid (∀ W, Below w.heap.size w W → Calls Tryd.prog 75 #[setV D, .slice (some ⟨lb, lo, none⟩) n cap, .int .i64 ((k + 1 : Nat) : Int)] W fun e w' => ∃ u, e = .returned u ∧ Below W.heap.size W w' ∧ rowTrueW w.heap.size q u w') := fun W hb => by
                  have := HRec.out W hb
                  rw [hq] at this
                  exact this.mono fun e w' ⟨⟨v, he, hown⟩, hb2⟩ => ⟨_, he, hb2, v, rfl, ownsRow_le hown hb.size⟩
                have hql : q.length ≤ 100 := by have := cov_len hq; omega
                have HNX : Hid (cov ls f R i = some (k :: q)) := by
                  rw [Hid, HC.out, HST.out, cov_take HR0.out HSU.out (by rw [← HDD.out]; exact hq)]
                clear hq HRec
                refine wp_region_old 15 53 (by kernel_rfl) (by kernel_rfl) (by rfl) ?_
                simp only [List.take_succ_cons, List.take_zero, List.drop_succ_cons, List.drop_zero, List.drop_nil]
                refine chain_load (setV R) _ _ _ (fun _ _ => Below.refl _ _) rfl rfl (by kernel_rfl) (by kernel_rfl) rfl (fun w1 hC => load_set (F6.out.old hC).1) ?_
                refine chain_move (.slice (some ⟨lb, lo, none⟩) n cap) _ (fun _ _ => Below.refl _ _) rfl rfl (by kernel_rfl) (by kernel_rfl) rfl ?_
                refine chain_move (.int .i64 k) _ (fun _ _ => Below.refl _ _) rfl rfl (by kernel_rfl) (by kernel_rfl) rfl ?_
                refine chain_idx (.pointer (some ⟨lb, lo + k * 4, none⟩)) _ _ _ (.slice (some ⟨lb, lo, none⟩) n cap) (.int .i64 k) (fun _ _ => Below.refl _ _) rfl rfl (by kernel_rfl) (by kernel_rfl) rfl rfl (fun w1 => idx_setp _ _ _ _ _ hlt w1) ?_
                refine chain_load (setV M) _ _ _ (fun _ _ => Below.refl _ _) rfl rfl (by kernel_rfl) (by kernel_rfl) rfl (fun w1 hC => HLD.out w1 (F6.out.old hC)) ?_
                refine chain_call (setV D) 36 [setV R, setV M] _ _ (enters_of Tryd.func36 (by kernel_rfl) rfl) rfl rfl rfl (by kernel_rfl) (by kernel_rfl) rfl rfl (fun w1 _ => HMi.out w1) ?_
                refine chain_move (.slice (some ⟨lb, lo, none⟩) n cap) _ (fun _ _ => Below.refl _ _) rfl rfl (by kernel_rfl) (by kernel_rfl) rfl ?_
                refine chain_move (.int .i64 k) _ (fun _ _ => Below.refl _ _) rfl rfl (by kernel_rfl) (by kernel_rfl) rfl ?_
                refine chain_bin (.int .i64 ((k + 1 : Nat) : Int)) _ _ _ _ _ (.int .i64 k) (.int .i64 1) (fun _ _ => Below.refl _ _) rfl rfl (by kernel_rfl) (by kernel_rfl) rfl rfl (fun w1 => add_i _ _ _ k (by omega) w1) ?_
                refine chain_call_re (rowTrueW w.heap.size q) 75 [setV D, .slice (some ⟨lb, lo, none⟩) n cap, .int .i64 ((k + 1 : Nat) : Int)] _ _ (rowTrueW_lasts _ _) (enters_of Tryd.func75 (by kernel_rfl) rfl) rfl rfl rfl (by kernel_rfl) (by kernel_rfl) rfl rfl (fun w1 hC => HR1.out w1 (F6.out.old hC).2) ?_
                refine chain_move_re 45 (rowTrueW w.heap.size q) (rowTrueW_lasts _ _) (fun _ _ => Below.refl _ _) rfl rfl (by kernel_rfl) rfl (by kernel_rfl) (fun _ => rfl) ?_
                refine chain_ext_re (rowW w.heap.size q) 35 0 (rowTrueW w.heap.size q) (rowW_lasts _ _) (fun _ _ => Below.refl _ _) rfl rfl (by kernel_rfl) rfl (by kernel_rfl) (fun _ => rfl) (fun x w1 hx => by obtain ⟨u, rfl, ho⟩ := hx; exact ⟨_, u, rfl, rfl, ho⟩) ?_
                refine chain_ext_ex (.bool true) 35 1 (rowTrueW w.heap.size q) (fun _ _ => Below.refl _ _) rfl rfl (by kernel_rfl) rfl (by kernel_rfl) (fun _ => rfl) (fun x w1 hx => by obtain ⟨u, rfl, _⟩ := hx; exact ⟨_, rfl, rfl⟩) ?_
                refine chain_assign_re 46 (rowW w.heap.size q) (rowW_lasts _ _) (fun _ _ => Below.refl _ _) rfl rfl (by kernel_rfl) rfl (by kernel_rfl) (fun _ => rfl) ?_
                refine chain_assign (.bool true) _ (fun _ _ => Below.refl _ _) rfl rfl (by kernel_rfl) (by kernel_rfl) rfl ?_
                refine chain_end (by rfl) ?_
                intro xs w8 hCw8 hrew8
                simp only [layE, List.foldr_cons, List.foldr_nil, List.set_cons_succ, List.set_cons_zero]
                have F8 := Lib.hid (F6.out.old hCw8)
                have h9 : w8.ownsRow w.heap.size 3 1 (xs 9) q.length (intsL q) := hrew8 9 (rowW w.heap.size q) rfl
                have HOwn := Lib.hid h9
                have hwle : w.heap.size ≤ w8.heap.size := F8.out.2.size
                clear hCw8 hrew8 F6 HMi HR1 h9
                obtain ⟨v, hv⟩ : ∃ v, v = xs 9 := ⟨_, rfl⟩
                rw [← hv] at HOwn ⊢
                clear hv
                obtain ⟨i0, hi0, hz0, hz1, hz2⟩ := info_parts infoInt
                go_upto_region 9 with (fail)
                have hcase : v = .slice none 0 0 ∧ q = [] ∨ ∃ g cap8, v = .slice (some ⟨g, 0, none⟩) q.length cap8 ∧ Cells w8 (some ⟨g, 0, none⟩) (intsL q) := by
                  obtain ⟨_, a8, cap8, hv, hc, _⟩ := ownsRow_cells HOwn.out
                  have h2 := HOwn.out.2
                  rcases h2 with ⟨h3, h4⟩ | ⟨g, c', cur, h3, _⟩
                  · exact .inl ⟨h3, List.length_eq_zero_iff.1 h4⟩
                  · rw [hv] at h3
                    simp only [Value.slice.injEq] at h3
                    obtain ⟨rfl, _, rfl⟩ := h3
                    exact .inr ⟨g, cap8, hv, hc⟩
                rcases hcase with ⟨rfl, rfl⟩ | ⟨g, cap8, rfl, hcc⟩
                · have HRR : Hid (∀ W, W.ownsRow w.heap.size 3 1 (.slice (some ⟨w8.heap.size, 0, none⟩) 1 1) 1 [.int .i64 (k : Int)] → RcPost (cov ls f R i) w.heap.size (.returned (.tuple #[.slice (some ⟨w8.heap.size, 0, none⟩) 1 1, .bool true])) W) := fun W h => by
                    rw [HNX.out]; exact ⟨_, rfl, h⟩
                  go_wp2_with (first | (at_builtin; go_loud (refine wpList_append_own_none rfl _ _ 22 rfl w.heap.size 3 i0 1 Tryd.underlying22 hi0 (.slice (some ⟨w8.heap.size, 0, none⟩) 1 1) 1 [.int .i64 (k : Int)] rfl (owns_new1 hwle (k : Int)) rfl ?_)))
                  go_ret2
                  exact ⟨HRR.out _ (owns_new1 hwle (k : Int)), F8.out.2.alloc F8.out.2.size _⟩
                · have HRR : Hid (∀ v W, W.ownsRow w.heap.size 3 1 v (1 + q.length) ([.int .i64 (k : Int)] ++ intsL q) → RcPost (cov ls f R i) w.heap.size (.returned (.tuple #[v, .bool true])) W) := fun v W h => by
                    rw [HNX.out]
                    refine ⟨v, rfl, ?_⟩
                    rw [List.length_cons, Nat.add_comm]
                    exact h
                  have hcc2 := cells_add (hcc.below (below_new1 w8 (.cells #[.int .i64 (k : Int)] 3)))
                  have HCC := Lib.hid hcc2
                  have hq0 := F8.out.2.alloc F8.out.2.size (.cells #[.int .i64 (k : Int)] 3)
                  have HQ0 := Lib.hid hq0
                  clear hcc hcc2 hq0
                  go_wp2_with (first | (at_builtin; go_loud (refine wpList_append_own _ rfl _ _ 22 rfl w.heap.size 3 i0 _ 1 8 Tryd.underlying22 hi0 hz0 hz1 hz2 rfl (by decide) (.slice (some ⟨w8.heap.size, 0, none⟩) 1 1) 1 [.int .i64 (k : Int)] rfl (owns_new1 hwle (k : Int)) ⟨g, 0, none⟩ q.length cap8 (intsL q) rfl (by rw [intsL_length, Nat.mul_one]) HCC.out (fun u hu => by obtain ⟨x, _, rfl⟩ := List.mem_map.1 hu; rfl) (by simp only [maxLen]; omega) (by omega) (by simp; omega) ?_; intro v9 w9 hown' hgrow _; have HO9 := Lib.hid hown'; have HB9 : Hid (Below w.heap.size w w9) := HQ0.out.grown hgrow HQ0.out.size (fun j hj => (World.ownsRow.lt (owns_new1 hwle (k : Int)) j hj).1); clear hown' hgrow)))
                  go_ret2
                  exact ⟨HRR.out _ _ HO9.out, HB9.out⟩
        · have HR : Hid (cov ls f R i = none) := by
            rw [Hid, HC.out, show n - k = 0 by omega, cov_end _ _ _ HR0.out]
          go_wp2_with fail
          go_ret2
          refine ⟨?_, F.out.2⟩
          rw [HR.out]
          rfl
end Go.Proofs.YtjifajigigflkaaDoor
namespace Go.Proofs.YtjifajigigflkaaDoor
set_option linter.unusedSimpArgs false
set_option linter.unusedVariables false
open Go Go.RowKit

theorem results3 {fn : Func} {x y z : Nat} (h : fn.results = #[.tmp x, .tmp y, .tmp z]) (ts : Array Value) (w : World) : (results fn ts).run Tryd.prog w = .ok (.tuple #[ts.getD x undef, ts.getD y undef, ts.getD z undef]) w := by
  simp [results, h, go_sem]
set_option maxRecDepth 100000 in
set_option maxHeartbeats 1000000 in
theorem rCover_any (N : Nat) (a : Option Addr) (cap : Nat) (ls : List Nat) (w : World) (hN : N < 2 ^ 256) (hls : ∀ N ∈ ls, N < 2 ^ 256) (hl : ls.length ≤ 100) (hs : SetCells w a ls) (ho : ∀ ad, a = some ad → ad.block < w.heap.size) :
    Calls Tryd.prog 54 #[setV N, .slice a ls.length cap] w (CoverPost ls N w) := by
  by_cases hlen : 16 < ls.length
  · clear hs ho hls hN
    go_enter Tryd.func54, Tryd.ntmps54
    simp only [setV]
    go_wp2_with fail
    refine bodyPost_ret (v := .tuple #[.slice none 0 0, .bool false, .int .i64 2]) (by simp [results, Tryd.results54, go_sem]) rfl ⟨below_new1 _ _, .inl ⟨hlen, rfl⟩⟩
  · have hlen' : ls.length ≤ 16 := by omega
    have hC : Hid (∀ W, Below w.heap.size w W → Calls Tryd.prog 75 #[setV N, .slice a ls.length cap, .int .i64 ((0 : Nat) : Int)] W fun e w' => RcPost (cov ls ls.length N 0) W.heap.size e w' ∧ Below W.heap.size W w') := fun W hb =>
      rcover_any a cap ls hls hl ls.length 0 N W (by omega) hN (hs.below ho hb) (fun ad e => Nat.lt_of_lt_of_le (ho ad e) hb.size)
    obtain ⟨n, hn⟩ : ∃ n, n = ls.length := ⟨_, rfl⟩
    have HN := Lib.hid hn
    cases hq : cov ls ls.length N 0 with
    | none =>
      have HR : Hid (∀ W, Below w.heap.size w W → Calls Tryd.prog 75 #[setV N, .slice a n cap, .int .i64 0] W fun e w' => e = .returned (.tuple #[.slice none 0 0, .bool false]) ∧ Below W.heap.size W w') := fun W hb => by
        have := hC.out W hb
        rw [hq, ← hn] at this
        exact this
      have HQ := Lib.hid hq
      rw [← hn] at hlen hlen' hl ⊢
      clear hq hC hs ho hls hN hn
      go_enter Tryd.func54, Tryd.ntmps54
      simp only [setV]
      go_wp2_with (first | (go_at_call 75; refine (HR.out _ (below_new1 _ _)).mono ?_; rintro e w2 ⟨rfl, hb⟩))
      refine bodyPost_ret (v := .tuple #[.slice none 0 0, .bool false, .int .i64 0]) (by simp [results, Tryd.results54, go_sem]) rfl ⟨(below_new1 _ _).trans (hb.mono (by simp)), .inr (.inl ⟨by rw [← HN.out]; exact hlen', HQ.out, rfl⟩)⟩
    | some q =>
      have HR : Hid (∀ W, Below w.heap.size w W → Calls Tryd.prog 75 #[setV N, .slice a n cap, .int .i64 0] W fun e w' => (∃ v, e = .returned (.tuple #[v, .bool true]) ∧ w'.ownsRow W.heap.size 3 1 v q.length (intsL q)) ∧ Below W.heap.size W w') := fun W hb => by
        have := hC.out W hb
        rw [hq, ← hn] at this
        exact this
      have HQ := Lib.hid hq
      rw [← hn] at hlen hlen' hl ⊢
      clear hq hC hs ho hls hN hn
      go_enter Tryd.func54, Tryd.ntmps54
      simp only [setV]
      go_wp2_with (first | (go_at_call 75; refine (HR.out _ (below_new1 _ _)).mono ?_; rintro e w2 ⟨⟨v, rfl, ho⟩, hb⟩; have HO := Lib.hid ho; clear ho))
      refine bodyPost_ret (v := .tuple #[v, .bool true, .int .i64 0]) (by simp [results, Tryd.results54, go_sem]) rfl ⟨(below_new1 _ _).trans (hb.mono (by simp)), .inr (.inr ⟨by rw [← HN.out]; exact hlen', q, v, HQ.out, rfl, ownsRow_le HO.out (by simp)⟩)⟩
end Go.Proofs.YtjifajigigflkaaDoor
namespace Go.Proofs.YtjifajigigflkaaDoor
set_option linter.unusedSimpArgs false
set_option linter.unusedVariables false
open Go Go.RowKit
theorem rb_eql (ty : TypeId) (x y : Operand) (a b : Int) (w : World) (h : a ≠ b) : (do eqGuard .eql ty x y (.int .i64 a) (.int .i64 b); binOp .eql ty (.int .i64 a) (.int .i64 b) : Sem Value).run Tryd.prog w = .ok (.bool false) w := by
  simp [go_sem, h]
theorem rb_lss (t : TypeId) (x y : Operand) (a b : Int) (p : Bool) (h : decide (a < b) = p) (w : World) :
    (do eqGuard .lss t x y (.int .i64 a) (.int .i64 b); binOp .lss t (.int .i64 a) (.int .i64 b) : Sem Value).run Tryd.prog w = .ok (.bool p) w := by
  subst h; simp [go_sem]
def RSz (N : Nat) (X : Int) : Prop := ∀ w, Calls Tryd.prog 38 #[setV N] w fun e w' => e = .returned (.int .i64 X) ∧ Below w.heap.size w w'
def RCm (N M : Nat) (X : Int) : Prop := ∀ w, Calls Tryd.prog 44 #[setV N, setV M] w fun e w' => e = .returned (.int .i64 X) ∧ Below w.heap.size w w' 
set_option maxRecDepth 100000 in
set_option maxHeartbeats 1000000 in
theorem better_lt (N M : Nat) (c : Int) (d : Int) (w : World) (h1 : RSz N c) (h2 : RSz M d) (h : c < d) :
    Calls Tryd.prog 81 #[setV N, setV M] w fun e w' => e = .returned (.bool true) ∧ Below w.heap.size w w' := by
  have H1 := Lib.hid h1; have H2 := Lib.hid h2
  have HH := Lib.hid h
  clear h1 h2 h
  go_enter Tryd.func81, Tryd.ntmps81
  simp only [setV]
  go_upto_region 1 with (fail)
  refine named (fun V => Below w.heap.size w V ∧ Blk V w.heap.size (setA N) 25 ∧ Blk V (w.heap.size + 1) (setA M) 25) ⟨below_new2 _ _ _, (Blk.newW _ _ _).alloc _, Blk.new1 _ _ _ _⟩ ?_
  rintro W ⟨FB, K2, K3⟩
  replace FB := Lib.hid FB; replace K2 := Lib.hid K2; replace K3 := Lib.hid K3
  refine wp_region_old 18 23 (by kernel_rfl) (by kernel_rfl) (by rfl) ?_
  simp only [List.take_succ_cons, List.take_zero, List.drop_succ_cons, List.drop_zero, List.drop_nil]
  refine chain_load (setV N) _ _ _ (fun _ _ => Below.refl _ _) rfl rfl (by kernel_rfl) (by kernel_rfl) rfl (fun w1 hC => load_set (K2.out.drew.below hC K2.out.lt)) ?_
  refine chain_call (.int .i64 c) 38 [setV N] _ _ (enters_of Tryd.func38 (by kernel_rfl) rfl) rfl rfl rfl (by kernel_rfl) (by kernel_rfl) rfl rfl (fun w1 _ => H1.out w1) ?_
  refine chain_load (setV M) _ _ _ (fun _ _ => Below.refl _ _) rfl rfl (by kernel_rfl) (by kernel_rfl) rfl (fun w1 hC => load_set (K3.out.drew.below hC K3.out.lt)) ?_
  refine chain_call (.int .i64 d) 38 [setV M] _ _ (enters_of Tryd.func38 (by kernel_rfl) rfl) rfl rfl rfl (by kernel_rfl) (by kernel_rfl) rfl rfl (fun w1 _ => H2.out w1) ?_
  refine chain_bin (.bool true) _ _ _ _ _ (.int .i64 c) (.int .i64 d) (fun _ _ => Below.refl _ _) rfl rfl (by kernel_rfl) (by kernel_rfl) rfl rfl (fun w1 => rb_lss _ _ _ _ _ _ (decide_eq_true HH.out) w1) ?_
  refine chain_move (.bool true) _ (fun _ _ => Below.refl _ _) rfl rfl (by kernel_rfl) (by kernel_rfl) rfl ?_
  refine chain_skip rfl (by kernel_rfl) ?_
  refine chain_skip rfl (by kernel_rfl) ?_
  refine chain_skip rfl (by kernel_rfl) ?_
  refine chain_skip rfl (by kernel_rfl) ?_
  refine chain_skip rfl (by kernel_rfl) ?_
  refine chain_skip rfl (by kernel_rfl) ?_
  refine chain_skipU rfl (by kernel_rfl) ?_
  refine chain_skipU rfl (by kernel_rfl) ?_
  refine chain_skipU rfl (by kernel_rfl) ?_
  refine chain_skipU rfl (by kernel_rfl) ?_
  refine chain_skip rfl (by kernel_rfl) ?_
  refine chain_pick (.bool true) _ _ _ true (fun _ _ => Below.refl _ _) rfl rfl (by kernel_rfl) (by kernel_rfl) rfl rfl ?_
  refine chain_end (by rfl) ?_
  intro xs W1 hCW1 hreW1
  simp only [layE, List.foldr_cons, List.foldr_nil, List.set_cons_succ, List.set_cons_zero]
  replace FB := Lib.hid (old_end FB.out hCW1 FB.out.size)
  clear hCW1 hreW1 K2 K3
  go_wp2_with fail
  go_ret
  exact ⟨rfl, FB.out⟩
set_option maxRecDepth 100000 in
set_option maxHeartbeats 1000000 in
theorem better_gt (N M : Nat) (c : Int) (d : Int) (w : World) (h1 : RSz N c) (h2 : RSz M d) (h : d < c) :
    Calls Tryd.prog 81 #[setV N, setV M] w fun e w' => e = .returned (.bool false) ∧ Below w.heap.size w w' := by
  have H1 := Lib.hid h1; have H2 := Lib.hid h2
  have HH := Lib.hid h
  clear h1 h2 h
  go_enter Tryd.func81, Tryd.ntmps81
  simp only [setV]
  go_upto_region 1 with (fail)
  refine named (fun V => Below w.heap.size w V ∧ Blk V w.heap.size (setA N) 25 ∧ Blk V (w.heap.size + 1) (setA M) 25) ⟨below_new2 _ _ _, (Blk.newW _ _ _).alloc _, Blk.new1 _ _ _ _⟩ ?_
  rintro W ⟨FB, K2, K3⟩
  replace FB := Lib.hid FB; replace K2 := Lib.hid K2; replace K3 := Lib.hid K3
  refine wp_region_old 18 23 (by kernel_rfl) (by kernel_rfl) (by rfl) ?_
  simp only [List.take_succ_cons, List.take_zero, List.drop_succ_cons, List.drop_zero, List.drop_nil]
  refine chain_load (setV N) _ _ _ (fun _ _ => Below.refl _ _) rfl rfl (by kernel_rfl) (by kernel_rfl) rfl (fun w1 hC => load_set (K2.out.drew.below hC K2.out.lt)) ?_
  refine chain_call (.int .i64 c) 38 [setV N] _ _ (enters_of Tryd.func38 (by kernel_rfl) rfl) rfl rfl rfl (by kernel_rfl) (by kernel_rfl) rfl rfl (fun w1 _ => H1.out w1) ?_
  refine chain_load (setV M) _ _ _ (fun _ _ => Below.refl _ _) rfl rfl (by kernel_rfl) (by kernel_rfl) rfl (fun w1 hC => load_set (K3.out.drew.below hC K3.out.lt)) ?_
  refine chain_call (.int .i64 d) 38 [setV M] _ _ (enters_of Tryd.func38 (by kernel_rfl) rfl) rfl rfl rfl (by kernel_rfl) (by kernel_rfl) rfl rfl (fun w1 _ => H2.out w1) ?_
  refine chain_bin (.bool false) _ _ _ _ _ (.int .i64 c) (.int .i64 d) (fun _ _ => Below.refl _ _) rfl rfl (by kernel_rfl) (by kernel_rfl) rfl rfl (fun w1 => rb_lss _ _ _ _ _ _ (decide_eq_false (by have := HH.out; omega)) w1) ?_
  refine chain_move (.bool false) _ (fun _ _ => Below.refl _ _) rfl rfl (by kernel_rfl) (by kernel_rfl) rfl ?_
  refine chain_load (setV N) _ _ _ (fun _ _ => Below.refl _ _) rfl rfl (by kernel_rfl) (by kernel_rfl) rfl (fun w1 hC => load_set (K2.out.drew.below hC K2.out.lt)) ?_
  refine chain_call (.int .i64 c) 38 [setV N] _ _ (enters_of Tryd.func38 (by kernel_rfl) rfl) rfl rfl rfl (by kernel_rfl) (by kernel_rfl) rfl rfl (fun w1 _ => H1.out w1) ?_
  refine chain_load (setV M) _ _ _ (fun _ _ => Below.refl _ _) rfl rfl (by kernel_rfl) (by kernel_rfl) rfl (fun w1 hC => load_set (K3.out.drew.below hC K3.out.lt)) ?_
  refine chain_call (.int .i64 d) 38 [setV M] _ _ (enters_of Tryd.func38 (by kernel_rfl) rfl) rfl rfl rfl (by kernel_rfl) (by kernel_rfl) rfl rfl (fun w1 _ => H2.out w1) ?_
  refine chain_bin (.bool false) _ _ _ _ _ (.int .i64 c) (.int .i64 d) (fun _ _ => Below.refl _ _) rfl rfl (by kernel_rfl) (by kernel_rfl) rfl rfl (fun w1 => rb_eql _ _ _ _ _ w1 (by have := HH.out; omega)) ?_
  refine chain_move (.bool false) _ (fun _ _ => Below.refl _ _) rfl rfl (by kernel_rfl) (by kernel_rfl) rfl ?_
  refine chain_skip rfl (by kernel_rfl) ?_
  refine chain_skip rfl (by kernel_rfl) ?_
  refine chain_skip rfl (by kernel_rfl) ?_
  refine chain_skip rfl (by kernel_rfl) ?_
  refine chain_pick (.bool false) _ _ _ false (fun _ _ => Below.refl _ _) rfl rfl (by kernel_rfl) (by kernel_rfl) rfl rfl ?_
  refine chain_pick (.bool false) _ _ _ false (fun _ _ => Below.refl _ _) rfl rfl (by kernel_rfl) (by kernel_rfl) rfl rfl ?_
  refine chain_end (by rfl) ?_
  intro xs W1 hCW1 hreW1
  simp only [layE, List.foldr_cons, List.foldr_nil, List.set_cons_succ, List.set_cons_zero]
  replace FB := Lib.hid (old_end FB.out hCW1 FB.out.size)
  clear hCW1 hreW1 K2 K3
  go_wp2_with fail
  go_ret
  exact ⟨rfl, FB.out⟩
set_option maxRecDepth 100000 in
set_option maxHeartbeats 1000000 in
theorem better_yes (N M : Nat) (c : Int) (X : Int) (w : World) (h1 : RSz N c) (h2 : RSz M c) (hx : RCm N M X) (h : X < 0) :
    Calls Tryd.prog 81 #[setV N, setV M] w fun e w' => e = .returned (.bool true) ∧ Below w.heap.size w w' := by
  have H1 := Lib.hid h1; have H2 := Lib.hid h2
  have HH := Lib.hid h; have HX := Lib.hid hx
  clear h1 h2 h hx
  go_enter Tryd.func81, Tryd.ntmps81
  simp only [setV]
  go_upto_region 1 with (fail)
  refine named (fun V => Below w.heap.size w V ∧ Blk V w.heap.size (setA N) 25 ∧ Blk V (w.heap.size + 1) (setA M) 25) ⟨below_new2 _ _ _, (Blk.newW _ _ _).alloc _, Blk.new1 _ _ _ _⟩ ?_
  rintro W ⟨FB, K2, K3⟩
  replace FB := Lib.hid FB; replace K2 := Lib.hid K2; replace K3 := Lib.hid K3
  refine wp_region_old 18 23 (by kernel_rfl) (by kernel_rfl) (by rfl) ?_
  simp only [List.take_succ_cons, List.take_zero, List.drop_succ_cons, List.drop_zero, List.drop_nil]
  refine chain_load (setV N) _ _ _ (fun _ _ => Below.refl _ _) rfl rfl (by kernel_rfl) (by kernel_rfl) rfl (fun w1 hC => load_set (K2.out.drew.below hC K2.out.lt)) ?_
  refine chain_call (.int .i64 c) 38 [setV N] _ _ (enters_of Tryd.func38 (by kernel_rfl) rfl) rfl rfl rfl (by kernel_rfl) (by kernel_rfl) rfl rfl (fun w1 _ => H1.out w1) ?_
  refine chain_load (setV M) _ _ _ (fun _ _ => Below.refl _ _) rfl rfl (by kernel_rfl) (by kernel_rfl) rfl (fun w1 hC => load_set (K3.out.drew.below hC K3.out.lt)) ?_
  refine chain_call (.int .i64 c) 38 [setV M] _ _ (enters_of Tryd.func38 (by kernel_rfl) rfl) rfl rfl rfl (by kernel_rfl) (by kernel_rfl) rfl rfl (fun w1 _ => H2.out w1) ?_
  refine chain_bin (.bool false) _ _ _ _ _ (.int .i64 c) (.int .i64 c) (fun _ _ => Below.refl _ _) rfl rfl (by kernel_rfl) (by kernel_rfl) rfl rfl (fun w1 => rb_lss _ _ _ _ _ _ (decide_eq_false (by omega)) w1) ?_
  refine chain_move (.bool false) _ (fun _ _ => Below.refl _ _) rfl rfl (by kernel_rfl) (by kernel_rfl) rfl ?_
  refine chain_load (setV N) _ _ _ (fun _ _ => Below.refl _ _) rfl rfl (by kernel_rfl) (by kernel_rfl) rfl (fun w1 hC => load_set (K2.out.drew.below hC K2.out.lt)) ?_
  refine chain_call (.int .i64 c) 38 [setV N] _ _ (enters_of Tryd.func38 (by kernel_rfl) rfl) rfl rfl rfl (by kernel_rfl) (by kernel_rfl) rfl rfl (fun w1 _ => H1.out w1) ?_
  refine chain_load (setV M) _ _ _ (fun _ _ => Below.refl _ _) rfl rfl (by kernel_rfl) (by kernel_rfl) rfl (fun w1 hC => load_set (K3.out.drew.below hC K3.out.lt)) ?_
  refine chain_call (.int .i64 c) 38 [setV M] _ _ (enters_of Tryd.func38 (by kernel_rfl) rfl) rfl rfl rfl (by kernel_rfl) (by kernel_rfl) rfl rfl (fun w1 _ => H2.out w1) ?_
  refine chain_bin (.bool true) _ _ _ _ _ (.int .i64 c) (.int .i64 c) (fun _ _ => Below.refl _ _) rfl rfl (by kernel_rfl) (by kernel_rfl) rfl rfl (fun w => eql_int_same _ _ _ _ w) ?_
  refine chain_move (.bool true) _ (fun _ _ => Below.refl _ _) rfl rfl (by kernel_rfl) (by kernel_rfl) rfl ?_
  refine chain_load (setV N) _ _ _ (fun _ _ => Below.refl _ _) rfl rfl (by kernel_rfl) (by kernel_rfl) rfl (fun w1 hC => load_set (K2.out.drew.below hC K2.out.lt)) ?_
  refine chain_load (setV M) _ _ _ (fun _ _ => Below.refl _ _) rfl rfl (by kernel_rfl) (by kernel_rfl) rfl (fun w1 hC => load_set (K3.out.drew.below hC K3.out.lt)) ?_
  refine chain_call (.int .i64 X) 44 [setV N, setV M] _ _ (enters_of Tryd.func44 (by kernel_rfl) rfl) rfl rfl rfl (by kernel_rfl) (by kernel_rfl) rfl rfl (fun w1 _ => HX.out w1) ?_
  refine chain_bin (.bool true) _ _ _ _ _ (.int .i64 X) (.int .i64 0) (fun _ _ => Below.refl _ _) rfl rfl (by kernel_rfl) (by kernel_rfl) rfl rfl (fun w1 => rb_lss _ _ _ _ _ _ (decide_eq_true (by have := HH.out; omega)) w1) ?_
  refine chain_pick (.bool true) _ _ _ true (fun _ _ => Below.refl _ _) rfl rfl (by kernel_rfl) (by kernel_rfl) rfl rfl ?_
  refine chain_pick (.bool true) _ _ _ false (fun _ _ => Below.refl _ _) rfl rfl (by kernel_rfl) (by kernel_rfl) rfl rfl ?_
  refine chain_end (by rfl) ?_
  intro xs W1 hCW1 hreW1
  simp only [layE, List.foldr_cons, List.foldr_nil, List.set_cons_succ, List.set_cons_zero]
  replace FB := Lib.hid (old_end FB.out hCW1 FB.out.size)
  clear hCW1 hreW1 K2 K3
  go_wp2_with fail
  go_ret
  exact ⟨rfl, FB.out⟩
set_option maxRecDepth 100000 in
set_option maxHeartbeats 1000000 in
theorem better_no (N M : Nat) (c : Int) (X : Int) (w : World) (h1 : RSz N c) (h2 : RSz M c) (hx : RCm N M X) (h : 0 ≤ X) :
    Calls Tryd.prog 81 #[setV N, setV M] w fun e w' => e = .returned (.bool false) ∧ Below w.heap.size w w' := by
  have H1 := Lib.hid h1; have H2 := Lib.hid h2
  have HH := Lib.hid h; have HX := Lib.hid hx
  clear h1 h2 h hx
  go_enter Tryd.func81, Tryd.ntmps81
  simp only [setV]
  go_upto_region 1 with (fail)
  refine named (fun V => Below w.heap.size w V ∧ Blk V w.heap.size (setA N) 25 ∧ Blk V (w.heap.size + 1) (setA M) 25) ⟨below_new2 _ _ _, (Blk.newW _ _ _).alloc _, Blk.new1 _ _ _ _⟩ ?_
  rintro W ⟨FB, K2, K3⟩
  replace FB := Lib.hid FB; replace K2 := Lib.hid K2; replace K3 := Lib.hid K3
  refine wp_region_old 18 23 (by kernel_rfl) (by kernel_rfl) (by rfl) ?_
  simp only [List.take_succ_cons, List.take_zero, List.drop_succ_cons, List.drop_zero, List.drop_nil]
  refine chain_load (setV N) _ _ _ (fun _ _ => Below.refl _ _) rfl rfl (by kernel_rfl) (by kernel_rfl) rfl (fun w1 hC => load_set (K2.out.drew.below hC K2.out.lt)) ?_
  refine chain_call (.int .i64 c) 38 [setV N] _ _ (enters_of Tryd.func38 (by kernel_rfl) rfl) rfl rfl rfl (by kernel_rfl) (by kernel_rfl) rfl rfl (fun w1 _ => H1.out w1) ?_
  refine chain_load (setV M) _ _ _ (fun _ _ => Below.refl _ _) rfl rfl (by kernel_rfl) (by kernel_rfl) rfl (fun w1 hC => load_set (K3.out.drew.below hC K3.out.lt)) ?_
  refine chain_call (.int .i64 c) 38 [setV M] _ _ (enters_of Tryd.func38 (by kernel_rfl) rfl) rfl rfl rfl (by kernel_rfl) (by kernel_rfl) rfl rfl (fun w1 _ => H2.out w1) ?_
  refine chain_bin (.bool false) _ _ _ _ _ (.int .i64 c) (.int .i64 c) (fun _ _ => Below.refl _ _) rfl rfl (by kernel_rfl) (by kernel_rfl) rfl rfl (fun w1 => rb_lss _ _ _ _ _ _ (decide_eq_false (by omega)) w1) ?_
  refine chain_move (.bool false) _ (fun _ _ => Below.refl _ _) rfl rfl (by kernel_rfl) (by kernel_rfl) rfl ?_
  refine chain_load (setV N) _ _ _ (fun _ _ => Below.refl _ _) rfl rfl (by kernel_rfl) (by kernel_rfl) rfl (fun w1 hC => load_set (K2.out.drew.below hC K2.out.lt)) ?_
  refine chain_call (.int .i64 c) 38 [setV N] _ _ (enters_of Tryd.func38 (by kernel_rfl) rfl) rfl rfl rfl (by kernel_rfl) (by kernel_rfl) rfl rfl (fun w1 _ => H1.out w1) ?_
  refine chain_load (setV M) _ _ _ (fun _ _ => Below.refl _ _) rfl rfl (by kernel_rfl) (by kernel_rfl) rfl (fun w1 hC => load_set (K3.out.drew.below hC K3.out.lt)) ?_
  refine chain_call (.int .i64 c) 38 [setV M] _ _ (enters_of Tryd.func38 (by kernel_rfl) rfl) rfl rfl rfl (by kernel_rfl) (by kernel_rfl) rfl rfl (fun w1 _ => H2.out w1) ?_
  refine chain_bin (.bool true) _ _ _ _ _ (.int .i64 c) (.int .i64 c) (fun _ _ => Below.refl _ _) rfl rfl (by kernel_rfl) (by kernel_rfl) rfl rfl (fun w => eql_int_same _ _ _ _ w) ?_
  refine chain_move (.bool true) _ (fun _ _ => Below.refl _ _) rfl rfl (by kernel_rfl) (by kernel_rfl) rfl ?_
  refine chain_load (setV N) _ _ _ (fun _ _ => Below.refl _ _) rfl rfl (by kernel_rfl) (by kernel_rfl) rfl (fun w1 hC => load_set (K2.out.drew.below hC K2.out.lt)) ?_
  refine chain_load (setV M) _ _ _ (fun _ _ => Below.refl _ _) rfl rfl (by kernel_rfl) (by kernel_rfl) rfl (fun w1 hC => load_set (K3.out.drew.below hC K3.out.lt)) ?_
  refine chain_call (.int .i64 X) 44 [setV N, setV M] _ _ (enters_of Tryd.func44 (by kernel_rfl) rfl) rfl rfl rfl (by kernel_rfl) (by kernel_rfl) rfl rfl (fun w1 _ => HX.out w1) ?_
  refine chain_bin (.bool false) _ _ _ _ _ (.int .i64 X) (.int .i64 0) (fun _ _ => Below.refl _ _) rfl rfl (by kernel_rfl) (by kernel_rfl) rfl rfl (fun w1 => rb_lss _ _ _ _ _ _ (decide_eq_false (by have := HH.out; omega)) w1) ?_
  refine chain_pick (.bool false) _ _ _ true (fun _ _ => Below.refl _ _) rfl rfl (by kernel_rfl) (by kernel_rfl) rfl rfl ?_
  refine chain_pick (.bool false) _ _ _ false (fun _ _ => Below.refl _ _) rfl rfl (by kernel_rfl) (by kernel_rfl) rfl rfl ?_
  refine chain_end (by rfl) ?_
  intro xs W1 hCW1 hreW1
  simp only [layE, List.foldr_cons, List.foldr_nil, List.set_cons_succ, List.set_cons_zero]
  replace FB := Lib.hid (old_end FB.out hCW1 FB.out.size)
  clear hCW1 hreW1 K2 K3
  go_wp2_with fail
  go_ret
  exact ⟨rfl, FB.out⟩
theorem rbetter_any (N M : Nat) (w : World) (hN : N < 2 ^ 256) (hM : M < 2 ^ 256) :
    Calls Tryd.prog 81 #[setV N, setV M] w fun e w' => e = .returned (.bool (betB N M)) ∧ Below w.heap.size w w' := by
  have h1 : RSz N (card N : Nat) := fun w => rSize_any N w
  have h2 : RSz M (card M : Nat) := fun w => rSize_any M w
  unfold betB
  by_cases e : card N = card M
  · rw [if_pos e]
    rw [← e] at h2
    have hx : RCm N M (cmpS N M) := fun w => rCompare_any N M w hN hM
    by_cases hl : N < M
    · rw [decide_eq_true hl]; exact better_yes N M _ _ w h1 h2 hx (by rw [cmp_of_lt hl]; decide)
    · rw [decide_eq_false hl]; exact better_no N M _ _ w h1 h2 hx (by unfold cmpS; rw [if_neg hl]; split <;> decide)
  · rw [if_neg e]
    by_cases hl : card N < card M
    · rw [decide_eq_true hl]; exact better_lt N M _ _ w h1 h2 (by omega)
    · rw [decide_eq_false hl]; exact better_gt N M _ _ w h1 h2 (by omega)
end Go.Proofs.YtjifajigigflkaaDoor
namespace Go.Proofs.YtjifajigigflkaaDoor
set_option linter.unusedSimpArgs false
set_option linter.unusedVariables false
open Go Go.RowKit

theorem ofInt_nat (x : Nat) (hx : x < 9223372036854775808) : (BitVec.ofInt 64 (x : Int)).toNat = x := by
  rw [BitVec.ofInt_natCast, BitVec.toNat_ofNat]; exact Nat.mod_eq_of_lt (by omega)
theorem bits_and_nat (a b : Nat) (ha : a < 9223372036854775808) (hb : b < 9223372036854775808) : bits .and .i64 (a : Int) (b : Int) = ((a &&& b : Nat) : Int) := by
  have h3 : a &&& b < 9223372036854775808 := Nat.lt_of_le_of_lt Nat.and_le_left ha
  show IntKind.i64.wrap ((BitVec.ofInt 64 (a : Int) &&& BitVec.ofInt 64 (b : Int)).toNat : Int) = _
  rw [BitVec.toNat_and, ofInt_nat a ha, ofInt_nat b hb]
  exact IntWalk.i64_in _ (by omega)
theorem and_one_i (m k : Nat) (hm : m < 9223372036854775808) : bits .and .i64 ((m : Int) / (2 : Int) ^ k) 1 = if m.testBit k then 1 else 0 := by
  have e1 : (m : Int) / (2 : Int) ^ k = ((m / 2 ^ k : Nat) : Int) := by simp
  have h2 : m / 2 ^ k < 9223372036854775808 := Nat.lt_of_le_of_lt (Nat.div_le_self _ _) hm
  rw [e1, show (1 : Int) = ((1 : Nat) : Int) from rfl, bits_and_nat _ 1 h2 (by decide)]
  rw [Nat.and_one_is_mod, Nat.testBit_eq_decide_div_mod_eq]
  by_cases h : m / 2 ^ k % 2 = 1
  · simp [h]
  · have : m / 2 ^ k % 2 = 0 := by omega
    simp [this]
theorem diff_nat (a b : Nat) (ha : a < 9223372036854775808) (hb : b < 9223372036854775808) : bits .andNot .i64 (a : Int) (b : Int) = ((diff a b : Nat) : Int) := by
  have h3 := diff_le a b
  have h4 : (BitVec.ofInt 64 (a : Int) &&& ~~~BitVec.ofInt 64 (b : Int)).toNat = diff a b := by
    apply Nat.eq_of_testBit_eq; intro k
    rw [testBit_diff, BitVec.testBit_toNat, BitVec.getLsbD_and, BitVec.getLsbD_not, ← BitVec.testBit_toNat, ← BitVec.testBit_toNat, ofInt_nat a ha, ofInt_nat b hb]
    by_cases hk : k < 64
    · simp [hk]
    · rw [Nat.testBit_lt_two_pow (x := a) (i := k) (Nat.lt_of_lt_of_le (show a < 2 ^ 64 by omega) (Nat.pow_le_pow_right (by decide) (by omega)))]
      simp
  show IntKind.i64.wrap ((BitVec.ofInt 64 (a : Int) &&& ~~~BitVec.ofInt 64 (b : Int)).toNat : Int) = _
  rw [h4]
  exact IntWalk.i64_in _ (by omega)
/-- The table below a mask. -/
def beV (ls : List Nat) (mask : Nat) : Nat → Nat := fun x => if x < mask then hitV ls x else 0
theorem beV_one (ls : List Nat) : (fun _ => 0) = beV ls 1 := by
  funext x
  unfold beV
  split
  · rw [show x = 0 by omega, hitV_zero]
  · rfl
theorem beV_zero (ls : List Nat) (mask : Nat) : updN (beV ls mask) mask 0 = beV ls mask := by
  funext x
  unfold updN beV
  split
  · rename_i h; subst h; rw [if_neg (by omega)]
  · rfl
theorem beV_next (ls : List Nat) (mask : Nat) : updN (beV ls mask) mask (hitV ls mask) = beV ls (mask + 1) := by
  funext x
  unfold updN beV
  by_cases h : x = mask
  · subst h; rw [if_pos rfl, if_pos (by omega)]
  · rw [if_neg h]
    by_cases h2 : x < mask
    · rw [if_pos h2, if_pos (by omega)]
    · rw [if_neg h2, if_neg (by omega)]
theorem updN_updN (f : Nat → Nat) (k a b : Nat) : updN (updN f k a) k b = updN f k b := by
  funext x
  unfold updN
  split <;> rfl
theorem updN_at (f : Nat → Nat) (k a : Nat) : updN f k a k = a := by unfold updN; rw [if_pos rfl]
theorem updN_ne (f : Nat → Nat) {k x : Nat} (a : Nat) (h : x ≠ k) : updN f k a x = f x := by unfold updN; rw [if_neg h]
/-- What the search has kept behind its first i numbers. -/
def accO (ls L : List Nat) (fb mask i : Nat) : Option Nat := (((L.take i).filter fun n => (hold ls ls.length n).testBit fb)).foldl (hitS fun n => hitV ls (diff mask (hold ls ls.length n))) none
theorem accO_skip {ls L : List Nat} {fb mask i : Nat} (hi : i < L.length) (h : (hold ls ls.length L[i]).testBit fb = false) : accO ls L fb mask (i + 1) = accO ls L fb mask i := by
  unfold accO
  rw [List.take_add_one, List.getElem?_eq_getElem hi, List.filter_append]
  simp [h]
theorem accO_step {ls L : List Nat} {fb mask i : Nat} (hi : i < L.length) (h : (hold ls ls.length L[i]).testBit fb = true) : accO ls L fb mask (i + 1) = hitS (fun n => hitV ls (diff mask (hold ls ls.length n))) (accO ls L fb mask i) L[i] := by
  unfold accO
  rw [List.take_add_one, List.getElem?_eq_getElem hi, List.filter_append]
  simp [h, List.foldl_append]
theorem accO_all {ls : List Nat} (hls : ∀ N ∈ ls, N < 2 ^ 256) (hnz : ∀ N ∈ ls, N ≠ 0) (hlen : ls.length ≤ 16) {mask fb i : Nat} (hM : mask < 2 ^ ls.length) (hf : mask.testBit fb = true) (hi : (repL ls 256).length ≤ i) : accO ls (repL ls 256) fb mask i = some (hitV ls mask) := by
  unfold accO
  rw [List.take_of_length_le hi]
  exact foldl_hit hls hnz hlen hM hf
/-- What the loops keep: the table, and the two lists. -/
def HtE (w : World) (p6 p7 : Option Addr) (L L7 : List Nat) (bB M : Nat) (be : Nat → Nat) (W : World) : Prop :=
  Blk W bB (beA M be) 25 ∧ Cells W p6 (intsL L) ∧ Cells W p7 (intsL L7) ∧ Blk W w.heap.size (setA 0) 25 ∧ Below w.heap.size w W
theorem HtE.below {w W W' : World} {p6 p7 : Option Addr} {L L7 : List Nat} {bB M : Nat} {be : Nat → Nat} (h : HtE w p6 p7 L L7 bB M be W) (hb : Below W.heap.size W W') : HtE w p6 p7 L L7 bB M be W' :=
  ⟨h.1.below hb h.1.lt, h.2.1.below hb, h.2.2.1.below hb, h.2.2.2.1.below hb h.2.2.2.1.lt, h.2.2.2.2.trans (hb.mono h.2.2.2.2.size)⟩
theorem HtE.old {w W W' : World} {p6 p7 : Option Addr} {L L7 : List Nat} {bB M : Nat} {be : Nat → Nat} (h : HtE w p6 p7 L L7 bB M be W) (hC : (clOld W.drew).C W') : HtE w p6 p7 L L7 bB M be W' := h.below ((Below.refl _ W).drew.trans hC)
theorem Cells.otherp {W : World} {p : Option Addr} {c : Nat} {vs : List Value} (h : Cells W p vs) (hne : vs ≠ [] → ∀ b o, p = some ⟨b, o, none⟩ → b ≠ c) (i j k l : Nat) (x y z u : Value) : Cells ((((W.setCell ⟨c, i, none⟩ x).setCell ⟨c, j, none⟩ y).setCell ⟨c, k, none⟩ z).setCell ⟨c, l, none⟩ u) p vs := by
  rcases h with h | ⟨b, o, ha, hc⟩
  · exact .inl h
  · by_cases hv : vs = []
    · exact .inl hv
    · have hb := hne hv b o ha
      refine .inr ⟨b, o, ha, fun m v hm => ?_⟩
      rw [World.cell?_of_block (w := W)]
      · exact hc m v hm
      · show _ = W.heap[b]?
        rw [Below.heap_setCell _ _ _ _ (by exact hb), Below.heap_setCell _ _ _ _ (by exact hb), Below.heap_setCell _ _ _ _ (by exact hb), Below.heap_setCell _ _ _ _ (by exact hb)]
theorem HtE.put {w W : World} {p6 p7 : Option Addr} {L L7 : List Nat} {bB M : Nat} {be : Nat → Nat} (h : HtE w p6 p7 L L7 bB M be W) (h6 : intsL L ≠ [] → ∀ b o, p6 = some ⟨b, o, none⟩ → b ≠ bB) (h7 : intsL L7 ≠ [] → ∀ b o, p7 = some ⟨b, o, none⟩ → b ≠ bB) (hw : w.heap.size < bB) {r : Nat} (hr : r < M) (s : Nat) :
    HtE w p6 p7 L L7 bB M (updN be r s) ((((W.setCell ⟨bB, r * 4, none⟩ (.int .u64 ↑(word s 0))).setCell ⟨bB, r * 4 + 1, none⟩ (.int .u64 ↑(word s 1))).setCell ⟨bB, r * 4 + 2, none⟩ (.int .u64 ↑(word s 2))).setCell ⟨bB, r * 4 + 3, none⟩ (.int .u64 ↑(word s 3))) :=
  ⟨beA_put h.1 hr s, h.2.1.otherp h6 _ _ _ _ _ _ _ _, h.2.2.1.otherp h7 _ _ _ _ _ _ _ _, h.2.2.2.1.otherr (by omega) _ _ _ _ _ _ _ _, below_putr h.2.2.2.2 (by omega) _ _ _ _ _ _ _ _⟩
theorem load_be {W : World} {b M : Nat} {be : Nat → Nat} (h : Blk W b (beA M be) 25) {r : Nat} (hr : r < M) : (Instr.loadAt 25 (.pointer (some ⟨b, 0 + r * 4, none⟩))).run Tryd.prog W = .ok (setV (be r)) W := by
  obtain ⟨e0, e1, e2, e3, _⟩ := beA_cells h hr
  rw [Nat.zero_add]
  refine load_setp fun j hj => ?_
  have h4 : j = 0 ∨ j = 1 ∨ j = 2 ∨ j = 3 := by omega
  rcases h4 with rfl | rfl | rfl | rfl
  · exact e0
  · exact e1
  · exact e2
  · exact e3
theorem andnot_i (t : TypeId) (x y : Operand) (a b d : Nat) (hd : d = diff a b) (ha : a < 9223372036854775808) (hb : b < 9223372036854775808) (w : World) :
    (do eqGuard .andNot t x y (.int .i64 a) (.int .i64 b); binOp .andNot t (.int .i64 a) (.int .i64 b) : Sem Value).run Tryd.prog w = .ok (.int .i64 d) w := by
  subst hd
  have h := diff_nat a b ha hb
  simp [go_sem, h]
theorem cells_int {W : World} {p : Option Addr} {L : List Nat} {g i : Nat} (h : Cells W p (intsL L)) (hp : p = some ⟨g, 0, none⟩) (hi : i < L.length) : W.cell? ⟨g, 0 + i, none⟩ = some (.int .i64 (L[i] : Nat)) := by
  subst hp
  rcases h with h | ⟨b, o, ha, hc⟩
  · have : L = [] := by unfold intsL at h; simpa using h
    rw [this] at hi; simp at hi
  · cases ha
    refine hc i _ ?_
    unfold intsL
    rw [List.getElem?_map, List.getElem?_eq_getElem hi]; rfl
end Go.Proofs.YtjifajigigflkaaDoor
namespace Go.Proofs.YtjifajigigflkaaDoor
set_option linter.unusedSimpArgs false
set_option linter.unusedVariables false
open Go Go.RowKit
attribute [local go_sem] equalIn_words setV equalIn_zero

/-- Two lists of numbers, each in a slice of its own. -/
def RoW (w : World) (L6 L7 : List Nat) (v6 v7 : Value) (W : World) : Prop :=
  W.ownsRow w.heap.size 3 1 v6 L6.length (intsL L6) ∧ W.ownsRow w.heap.size 3 1 v7 L7.length (intsL L7) ∧ (v6.ownBlock = none ∨ v6.ownBlock ≠ v7.ownBlock) ∧ Blk W w.heap.size (setA 0) 25 ∧ Below w.heap.size w W
theorem RoW.below {w W W' : World} {L6 L7 : List Nat} {v6 v7 : Value} (h : RoW w L6 L7 v6 v7 W) (hb : Below W.heap.size W W') : RoW w L6 L7 v6 v7 W' :=
  ⟨ownsRow_below h.1 hb, ownsRow_below h.2.1 hb, h.2.2.1, h.2.2.2.1.below hb h.2.2.2.1.lt, h.2.2.2.2.trans (hb.mono h.2.2.2.2.size)⟩
theorem RoW.app6 {w W w1 : World} {L6 L7 : List Nat} {v6 v7 v' : Value} {tmp : Obj} {x : Nat} (h : RoW w L6 L7 v6 v7 W) (hown : w1.ownsRow w.heap.size 3 1 v' (L6.length + 1) (intsL L6 ++ [.int .i64 (x : Int)])) (hgrow : (W.alloc tmp).grownBy w1 v6.ownBlock)
    (hat : v'.ownBlock = v6.ownBlock ∨ v'.ownBlock = some (W.alloc tmp).heap.size) : RoW w (L6 ++ [x]) L7 v' v7 w1 := by
  obtain ⟨h1, h2, h3, h4, h5⟩ := h
  have h7 : v7.ownBlock = none ∨ v7.ownBlock ≠ v6.ownBlock := by
    rcases h3 with h | h
    · rw [h]
      cases v7.ownBlock with
      | none => exact .inl rfl
      | some k => exact .inr (by simp)
    · exact .inr (Ne.symm h)
  refine ⟨by rw [List.length_append, intsL_snoc]; exact hown, (h2.alloc tmp).kept hgrow h7, ?_, blk_grown (h4.alloc tmp) (by decide) (h1.alloc tmp) hgrow, (h5.alloc h5.size tmp).grown hgrow (h5.alloc h5.size tmp).size (fun k hk => (World.ownsRow.lt h1 k hk).1)⟩
  rcases hat with e | e
  · rw [e]; exact h3
  · right
    rw [e]
    intro e'
    have := (World.ownsRow.lt (h2.alloc tmp) _ e'.symm).2
    omega
theorem RoW.app7 {w W w1 : World} {L6 L7 : List Nat} {v6 v7 v' : Value} {tmp : Obj} {x : Nat} (h : RoW w L6 L7 v6 v7 W) (hown : w1.ownsRow w.heap.size 3 1 v' (L7.length + 1) (intsL L7 ++ [.int .i64 (x : Int)])) (hgrow : (W.alloc tmp).grownBy w1 v7.ownBlock)
    (hat : v'.ownBlock = v7.ownBlock ∨ v'.ownBlock = some (W.alloc tmp).heap.size) : RoW w L6 (L7 ++ [x]) v6 v' w1 := by
  obtain ⟨h1, h2, h3, h4, h5⟩ := h
  refine ⟨(h1.alloc tmp).kept hgrow h3, by rw [List.length_append, intsL_snoc]; exact hown, ?_, blk_grown (h4.alloc tmp) (by decide) (h2.alloc tmp) hgrow, (h5.alloc h5.size tmp).grown hgrow (h5.alloc h5.size tmp).size (fun k hk => (World.ownsRow.lt h2 k hk).1)⟩
  rcases hat with e | e
  · rw [e]; exact h3
  · rw [e]
    cases hv : v6.ownBlock with
    | none => exact .inl rfl
    | some k =>
      right
      intro e'
      have := (World.ownsRow.lt (h1.alloc tmp) _ hv).2
      have e2 := Option.some.inj e'
      omega
theorem cell_row {W : World} {B : Nat} {v : Value} {L : List Nat} (h : W.ownsRow B 3 1 v L.length (intsL L)) {i : Nat} (hi : i < L.length) : ∃ g cap, v = .slice (some ⟨g, 0, none⟩) L.length cap ∧ W.cell? ⟨g, i, none⟩ = some (.int .i64 (L[i] : Nat)) := by
  obtain ⟨_, a, cap, rfl, hc, _⟩ := ownsRow_cells h
  have hi2 : (intsL L)[i]? = some (.int .i64 (L[i] : Nat)) := by
    unfold intsL
    rw [List.getElem?_map, List.getElem?_eq_getElem hi]; rfl
  rcases h.2 with ⟨h3, h4⟩ | ⟨g, c', cur, h3, _⟩
  · omega
  · simp only [Value.slice.injEq] at h3
    obtain ⟨rfl, _, rfl⟩ := h3
    refine ⟨g, cap, rfl, ?_⟩
    rcases hc with hc | ⟨b, o, ha, hc⟩
    · rw [hc] at hi2; cases hi2
    · cases ha
      have := hc i _ hi2
      rwa [Nat.zero_add] at this
theorem any_take1 {p : Nat → Bool} {L : List Nat} {i : Nat} (h : i < L.length) : (L.take (i + 1)).any p = ((L.take i).any p || p L[i]) := by
  rw [List.take_add_one, List.getElem?_eq_getElem h, List.any_append]; simp
theorem repL_succ {ls : List Nat} {n : Nat} (hn : n = ls.length) (m : Nat) : repL ls (m + 1) = if (decide (hold ls n m = 0) || (repL ls m).any fun r => hold ls n r == hold ls n m) then repL ls m else repL ls m ++ [m] := by
  subst hn
  conv => lhs; unfold repL
  congr 1
  simp
theorem or_hold (ls : List Nat) (m i : Nat) (hi : i < 63) : bits .or .i64 ((hold ls i m : Nat) : Int) ((2 : Int) ^ i) = ((hold ls i m ||| 2 ^ i : Nat) : Int) := by
  have hp : 2 ^ i < 9223372036854775808 := Nat.lt_of_lt_of_le (Nat.pow_lt_pow_right (by decide) hi) (by decide)
  have := bits_or_i64 (hold ls i m) (2 ^ i) (Nat.lt_trans (hold_lt ls m i) hp) hp
  rwa [show ((2 ^ i : Nat) : Int) = (2 : Int) ^ i by simp] at this
set_option maxRecDepth 100000 in
set_option maxHeartbeats 8000000 in
theorem rHit_any (a : Option Addr) (cap : Nat) (ls : List Nat) (w : World) (hls : ∀ N ∈ ls, N < 2 ^ 256) (hl : ls.length ≤ 100) (hs : SetCells w a ls) (ho : ∀ ad, a = some ad → ad.block < w.heap.size) :
    Calls Tryd.prog 56 #[.slice a ls.length cap] w fun e w' => e = .returned (hitR ls) ∧ Below w.heap.size w w' := by
  have HS := Lib.hid hs
  have HO := Lib.hid ho
  have HLS := Lib.hid hls
  obtain ⟨n, hn⟩ : ∃ n, n = ls.length := ⟨_, rfl⟩
  have HN := Lib.hid hn
  by_cases hlen : 16 < ls.length
  · have HR : Hid (hitR ls = .tuple #[setV 0, .bool false, .int .i64 2]) := by unfold Hid hitR; rw [if_pos hlen]
    rw [← hn] at hl hlen ⊢
    clear hs ho hls hn
    go_enter Tryd.func56, Tryd.ntmps56
    go_wp2_with fail
    refine named (fun V => Blk V w.heap.size (setA 0) 25 ∧ Below w.heap.size w V) ⟨Blk.newS _ _, below_new1 _ _⟩ ?_
    rintro V ⟨hB, hbV⟩
    obtain ⟨q0, q1, q2, q3, _⟩ := hB.set4
    exact bodyPost_ret (v := .tuple #[setV 0, .bool false, .int .i64 2]) (by simp [results, Tryd.results56, go_sem, q0, q1, q2, q3, setV]) rfl ⟨by rw [HR.out], hbV⟩
  · have hlen' : ls.length ≤ 16 := by omega
    have HR0 : Hid (ls.any (eqS 0) = true → hitR ls = .tuple #[setV 0, .bool false, .int .i64 0]) := fun h => by unfold hitR; rw [if_neg hlen, if_pos h]
    have HR1 : Hid (ls.any (eqS 0) = false → hitR ls = .tuple #[setV (hitV ls (2 ^ ls.length - 1)), .bool true, .int .i64 0]) := fun h => by unfold hitR; rw [if_neg hlen, if_neg (by rw [h]; decide)]
    have HAT : Hid (∀ k, k < n → ∃ M lb lo, M = ls.getD k 0 ∧ M < 2 ^ 256 ∧ a = some ⟨lb, lo, none⟩ ∧ ∀ W, Below w.heap.size w W → ∀ j, j < 4 → W.cell? ⟨lb, lo + k * 4 + j, none⟩ = some (.int .u64 (word M j))) := fun k hk => by
      have hkl : k < ls.length := by rw [← hn]; exact hk
      obtain ⟨lb, lo, ha, hc⟩ := hs.at hkl
      refine ⟨_, lb, lo, rfl, getD_lt hls k, ha, fun W hb j hj => ?_⟩
      rw [List.getD_eq_getElem?_getD, List.getElem?_eq_getElem hkl]
      rw [World.cell?_of_block (hb.block lb (by have := ho _ ha; simpa using this))]
      exact hc j hj
    rw [← hn] at hl hlen hlen' ⊢
    clear hs ho hls hn hlen
    go_enter Tryd.func56, Tryd.ntmps56
    go_wp2_with fail
    go_loopw [5] (fun ti wr => ∃ k : Nat, k ≤ n ∧ ti = .int .i64 k ∧ Hid (∀ j, j < k → ls.getD j 0 ≠ 0) ∧ Blk wr w.heap.size (setA 0) 25 ∧ Below w.heap.size w wr) (fun ti _ => n - (intOf ti).toNat)
    case atStart => exact ⟨0, by omega, rfl, (fun j hj => by omega), Blk.newS _ _, below_new1 _ _⟩
    case round =>
      obtain ⟨k, hk, rfl, HNZ, hB, hW⟩ := hrel
      have KB := Lib.hid hB
      have KW := Lib.hid hW
      clear hB hW
      by_cases hlt : k < n
      · obtain ⟨M, lb, lo, hM, hM2, ha, hc⟩ := HAT.out k hlt
        subst ha
        have c0 : wr.cell? ⟨lb, lo + k * 4, none⟩ = _ := hc wr KW.out 0 (by omega)
        have c1 := hc wr KW.out 1 (by omega)
        have c2 := hc wr KW.out 2 (by omega)
        have c3 := hc wr KW.out 3 (by omega)
        have HMM := Lib.hid hM
        have HM2 := Lib.hid hM2
        clear hc hM hM2
        by_cases hz : M = 0
        · have hq : eqS M 0 = true := by rw [eqS_zero HM2.out]; simpa using hz
          have HRR : Hid (hitR ls = .tuple #[setV 0, .bool false, .int .i64 0]) := HR0.out (List.any_eq_true.2 ⟨M, by
            rw [HMM.out, List.getD_eq_getElem?_getD, List.getElem?_eq_getElem (show k < ls.length by rw [← HN.out]; exact hlt)]
            exact List.getElem_mem _, by rw [hz]; decide⟩)
          clear hz
          obtain ⟨d0, d1, d2, d3, df⟩ := KB.out.set4
          go_wp2_with fail
          refine named (fun V => Blk V w.heap.size (setA 0) 25 ∧ Below w.heap.size w V) ⟨by rw [setA_zero]; exact KB.out.put4 rfl _ _ _ _, below_put4 KW.out (Nat.le_refl _) _ _ _ _⟩ ?_
          rintro V ⟨hB, hbV⟩
          obtain ⟨q0, q1, q2, q3, _⟩ := hB.set4
          exact bodyPost_ret (v := .tuple #[setV 0, .bool false, .int .i64 0]) (by simp [results, Tryd.results56, go_sem, q0, q1, q2, q3, setV]) rfl ⟨by rw [HRR.out], hbV⟩
        · have hq : eqS M 0 = false := by rw [eqS_zero HM2.out]; simpa using hz
          have HMZ := Lib.hid hz
          clear hz
          go_wp2_with fail
          exact ⟨⟨k + 1, by omega, by simp, (fun j hj => by
            by_cases e : j = k
            · subst e; rw [← HMM.out]; exact HMZ.out
            · exact HNZ.out j (by omega)), KB.out, KW.out⟩, by simp [intOf]; omega⟩
      · have e : k = n := by omega
        have HNZ2 : Hid (∀ N ∈ ls, N ≠ 0) := fun N hN => by
          obtain ⟨j, hj, rfl⟩ := List.getElem_of_mem hN
          have := HNZ.out j (by rw [e, HN.out]; exact hj)
          rwa [List.getD_eq_getElem?_getD, List.getElem?_eq_getElem hj] at this
        have HRR : Hid (hitR ls = .tuple #[setV (hitV ls (2 ^ n - 1)), .bool true, .int .i64 0]) := by
          rw [Hid, HN.out]
          refine HR1.out (List.any_eq_false.2 fun N hN h => HNZ2.out N hN ?_)
          exact ((eqS_iff (by decide) (HLS.out N hN)).1 h).symm
        clear e HNZ HR0 HR1
        obtain ⟨i0, hi0, hz0, hz1, hz2⟩ := info_parts infoInt
        go_upto_region 9 with (fail)
        go_wp2_with fail
        go_loopw [6, 7, 8] (fun v6 v7 tm wr => ∃ m : Nat, m ≤ 256 ∧ tm = .int .i64 m ∧ RoW w (repL ls m) ((repL ls m).map (hold ls n)) v6 v7 wr) (fun _ _ tm _ => 256 - (intOf tm).toNat)
        case atStart => exact ⟨0, by omega, rfl, World.ownsRow_nil _ _ _ _, World.ownsRow_nil _ _ _ _, .inl rfl, KB.out, KW.out⟩
        case round =>
          obtain ⟨m, hm, rfl, hF⟩ := hrel
          have F := Lib.hid hF
          clear hF KB KW
          by_cases hm6 : m ≤ 255
          · have tm1 : decide ((m : Int) ≤ 255) = true := decide_eq_true (by omega)
            have tm2 : decide (m ≤ 255) = true := decide_eq_true hm6
            go_upto_region 13 with (fail)
            go_wp2_with fail
            go_loopw [9, 10] (fun tk ti wv => ∃ i : Nat, i ≤ n ∧ ti = .int .i64 i ∧ tk = .int .i64 (hold ls i m : Nat) ∧ RoW w (repL ls m) ((repL ls m).map (hold ls n)) u6 u7 wv) (fun _ ti _ => n - (intOf ti).toNat)
            case atStart => exact ⟨0, by omega, rfl, rfl, F.out⟩
            case round =>
              obtain ⟨i, hi, rfl, rfl, hF⟩ := hrel
              have G := Lib.hid hF
              clear hF F
              have hh16 : hold ls i m < 65536 := Nat.lt_of_lt_of_le (hold_lt ls m i) (Nat.pow_le_pow_right (n := 2) (by decide) (show i ≤ 16 by omega))
              by_cases hin : i < n
              · obtain ⟨M, lb, lo, hM, hM2, ha, hc⟩ := HAT.out i hin
                subst ha
                have c0 : wr.cell? ⟨lb, lo + i * 4, none⟩ = _ := hc wr G.out.2.2.2.2 0 (by omega)
                have c1 := hc wr G.out.2.2.2.2 1 (by omega)
                have c2 := hc wr G.out.2.2.2.2 2 (by omega)
                have c3 := hc wr G.out.2.2.2.2 3 (by omega)
                have HMM := Lib.hid hM
                have HHa : Hid (∀ w, Calls Tryd.prog 28 #[setV M, .int .i64 m] w fun e w' => e = .returned (.bool (M.testBit m)) ∧ Below w.heap.size w w') := fun w => rhas_in M m w (by omega)
                obtain ⟨z, hz⟩ : ∃ z, z = M.testBit m := ⟨_, rfl⟩
                rw [← hz] at HHa
                clear hc hM hM2
                have hH : hold ls (i + 1) m = if z then hold ls i m ||| 2 ^ i else hold ls i m := by
                  simp only [hold]; rw [← HMM.out, ← hz]
                have HH := Lib.hid hH
                have hor := or_hold ls m i (by omega)
                have HOR := Lib.hid hor
                have hsh := wrap_pow_i64 i (by omega)
                obtain ⟨hv, hhv⟩ : ∃ hv, hv = hold ls i m := ⟨_, rfl⟩
                rw [← hhv] at HH HOR hh16 ⊢
                clear hz hH hor hhv
                cases z with
                | false =>
                  go_wp2_with (first | (go_at_call 28; refine (HHa.out _).mono ?_; rintro e w5 ⟨rfl, hb⟩))
                  exact ⟨⟨i + 1, by omega, by simp, by rw [HH.out]; rfl, G.out.below hb⟩, by simp [intOf]; omega⟩
                | true =>
                  go_wp2_with (first | (go_at_call 28; refine (HHa.out _).mono ?_; rintro e w5 ⟨rfl, hb⟩))
                  exact ⟨⟨i + 1, by omega, by simp, by rw [HH.out]; first | (rw [if_pos rfl]; exact congrArg (Value.int IntKind.i64) HOR.out) | (rw [if_pos trivial]; exact congrArg (Value.int IntKind.i64) HOR.out), G.out.below hb⟩, by simp [intOf]; omega⟩
              · have e : n = i := by omega
                subst e
                obtain ⟨hv, hhv⟩ : ∃ hv, hv = hold ls n m := ⟨_, rfl⟩
                rw [← hhv] at hh16 ⊢
                have HHV := Lib.hid hhv
                obtain ⟨L, hL⟩ : ∃ L, L = repL ls m := ⟨_, rfl⟩
                rw [← hL] at G
                have hll : L.length ≤ 256 := by rw [hL]; have := repL_len (ls := ls) m; omega
                have HL := Lib.hid hL
                obtain ⟨_, p7, cap7, hu7, _, _⟩ := ownsRow_cells G.out.2.1
                rw [List.length_map] at hu7
                obtain ⟨ln, hln⟩ : ∃ ln, ln = L.length := ⟨_, rfl⟩
                rw [← hln] at hu7 hll
                subst hu7
                have HLN := Lib.hid hln
                have HREP : Hid (repL ls (m + 1) = if (decide (hv = 0) || L.any fun r => hold ls n r == hv) then L else L ++ [m]) := by
                  rw [Hid, hhv, hL]; exact repL_succ HN.out m
                clear hhv hL hln hin hi
                obtain ⟨z0, hz0'⟩ : ∃ z, z = decide (hv = 0) := ⟨_, rfl⟩
                have hzz : decide (hv = 0) = z0 := hz0'.symm
                have hzz2 : ((hv : Int) == 0) = z0 := by rw [hz0', Bool.eq_iff_iff, beq_iff_eq, decide_eq_true_iff]; omega
                rw [hzz] at HREP
                have HZ2 := Lib.hid hzz2
                go_upto_region 19 with (fail)
                clear hzz hzz2 hz0'
                go_wp2_with fail
                go_loopw [11, 12] (fun tb ti wv => ∃ i : Nat, i ≤ ln ∧ ti = .int .i64 i ∧ tb = .bool (z0 || (L.take i).any fun r => hold ls n r == hv) ∧ RoW w L (L.map (hold ls n)) u6 (.slice p7 ln cap7) wv) (fun _ ti _ => ln - (intOf ti).toNat)
                case atStart => exact ⟨0, by omega, rfl, by rw [HZ2.out]; simp, G.out⟩
                case round =>
                  obtain ⟨i, hi, rfl, rfl, hF⟩ := hrel
                  have G2 := Lib.hid hF
                  clear hF G
                  obtain ⟨b, hb⟩ : ∃ b, b = (z0 || (L.take i).any fun r => hold ls n r == hv) := ⟨_, rfl⟩
                  rw [← hb]
                  have HBB := Lib.hid hb
                  clear hb
                  by_cases hin : i < ln
                  · have hiL : i < L.length := by rw [← HLN.out]; exact hin
                    have HSU : Hid ((z0 || (L.take (i + 1)).any fun r => hold ls n r == hv) = (b || (hold ls n L[i] == hv))) := by
                      rw [Hid, any_take1 hiL, HBB.out, Bool.or_assoc]
                    obtain ⟨g7, c7, he7, hc7⟩ := cell_row G2.out.2.1 (i := i) (by rw [List.length_map]; exact hiL)
                    rw [List.getElem_map] at hc7
                    simp only [Value.slice.injEq] at he7
                    obtain ⟨rfl, hjunk, rfl⟩ := he7
                    clear hjunk
                    obtain ⟨x, hx⟩ : ∃ x, x = hold ls n L[i] := ⟨_, rfl⟩
                    rw [← hx] at hc7 HSU
                    obtain ⟨q, hq⟩ : ∃ q, q = (x == hv) := ⟨_, rfl⟩
                    rw [← hq] at HSU
                    have hq1 : ((x : Int) == (hv : Int)) = q := by rw [hq, Bool.eq_iff_iff, beq_iff_eq, beq_iff_eq]; omega
                    have hq2 : (x == hv) = q := hq.symm
                    have hq3 : decide (x = hv) = q := by rw [hq, Bool.eq_iff_iff, decide_eq_true_iff, beq_iff_eq]
                    clear hx hq hiL
                    cases b with
                    | true =>
                      go_wp2_with fail
                      all_goals exact ⟨⟨i + 1, by omega, by simp, by rw [HSU.out]; rfl, G2.out⟩, by simp [intOf]; omega⟩
                    | false =>
                      cases q with
                      | true =>
                        go_wp2_with fail
                        all_goals exact ⟨⟨i + 1, by omega, by simp, by rw [HSU.out]; rfl, G2.out⟩, by simp [intOf]; omega⟩
                      | false =>
                        go_wp2_with fail
                        all_goals exact ⟨⟨i + 1, by omega, by simp, by rw [HSU.out]; rfl, G2.out⟩, by simp [intOf]; omega⟩
                  · have HB2 : Hid (b = (z0 || L.any fun r => hold ls n r == hv)) := by
                      rw [Hid, HBB.out, List.take_of_length_le (by rw [← HLN.out]; omega)]
                    clear HBB
                    cases b with
                    | true =>
                      have HR2 : Hid (repL ls (m + 1) = L) := by rw [Hid, HREP.out, ← HB2.out]; rfl
                      go_wp2_with fail
                      exact ⟨⟨m + 1, by omega, by simp, by rw [HR2.out]; exact G2.out⟩, by simp [intOf]; omega⟩
                    | false =>
                      have hll2 : L.length ≤ 256 := by rw [← HLN.out]; exact hll
                      have HR2 : Hid (repL ls (m + 1) = L ++ [m]) := by rw [Hid, HREP.out, ← HB2.out]; rfl
                      go_wp2_with (first
                        | (at_builtin; (refine wpList_append_own_at _ rfl _ _ 22 rfl w.heap.size 3 i0 _ 1 8 Tryd.underlying22 hi0 hz0 hz1 hz2 rfl (by decide) u6 L.length (intsL L) rfl (G2.out.1.alloc _) ⟨wr.heap.size, 0, none⟩ 1 1 [.int .i64 (m : Int)] rfl rfl (cell_one_new _ _ _) (by simp [Value.oneCell']) (by simp only [maxLen]; omega) (by omega) (by have := G2.out.2.2.2.2.size; simp; omega) ?_; intro v6' w6 hown' hgrow _ hat; have R6 := Lib.hid (G2.out.app6 hown' hgrow hat); clear hown' hgrow hat))
                        | (at_builtin; (refine wpList_append_own_at _ rfl _ _ 22 rfl w.heap.size 3 i0 _ 1 8 Tryd.underlying22 hi0 hz0 hz1 hz2 rfl (by decide) (.slice p7 ln cap7) (L.map (hold ls n)).length (intsL (L.map (hold ls n))) rfl (R6.out.2.1.alloc _) ⟨w6.heap.size, 0, none⟩ 1 1 [.int .i64 (hv : Int)] rfl rfl (cell_one_new _ _ _) (by simp [Value.oneCell']) (by simp only [maxLen, List.length_map]; omega) (by rw [List.length_map]; omega) (by have := R6.out.2.2.2.2.size; simp; omega) ?_; intro v7' w7 hown' hgrow _ hat; have R7 := Lib.hid (R6.out.app7 hown' hgrow hat); clear hown' hgrow hat)))
                      exact ⟨⟨m + 1, by omega, by simp, by rw [HR2.out, List.map_append, List.map_cons, List.map_nil, ← HHV.out]; exact R7.out⟩, by simp [intOf]; omega⟩
          · have e : 256 = m := by omega
            subst e
            obtain ⟨L, hL⟩ : ∃ L, L = repL ls 256 := ⟨_, rfl⟩
            rw [← hL] at F
            have HL := Lib.hid hL
            have hll : L.length ≤ 256 := by rw [hL]; exact repL_len 256
            have HL6 : Hid (∀ r ∈ L, r < 256) := fun r hr => by rw [hL] at hr; exact repL_lt 256 r hr
            obtain ⟨_, p6, cap6, hu6, hc6, _⟩ := ownsRow_cells F.out.1
            obtain ⟨_, p7, cap7, hu7, hc7, _⟩ := ownsRow_cells F.out.2.1
            rw [List.length_map] at hu7
            have HG : Hid (0 < L.length → ∃ g6 g7, p6 = some ⟨g6, 0, none⟩ ∧ p7 = some ⟨g7, 0, none⟩) := fun h0 => by
              obtain ⟨g6, c6, e6, h6⟩ := cell_row F.out.1 h0
              obtain ⟨g7, c7, e7, h7⟩ := cell_row F.out.2.1 (i := 0) (by rw [List.length_map]; exact h0)
              rw [hu6] at e6
              rw [hu7] at e7
              simp only [Value.slice.injEq] at e6 e7
              exact ⟨g6, g7, e6.1, e7.1⟩
            obtain ⟨ln, hln⟩ : ∃ ln, ln = L.length := ⟨_, rfl⟩
            rw [← hln] at hu6 hu7 hll HG
            have HC6 := Lib.hid hc6
            have HC7 := Lib.hid hc7
            have KB := Lib.hid F.out.2.2.2.1
            have KW := Lib.hid F.out.2.2.2.2
            clear hc6 hc7 F
            subst hu6
            subst hu7
            have HLN := Lib.hid hln
            obtain ⟨M, hM⟩ : ∃ M, M = 2 ^ n := ⟨_, rfl⟩
            have hM1 : 1 ≤ M := by rw [hM]; exact Nat.one_le_two_pow
            have hM16 : M ≤ 65536 := by rw [hM]; exact Nat.pow_le_pow_right (n := 2) (by decide) hlen'
            have hsh : IntKind.i64.wrap (2 ^ n) = (M : Int) := by rw [hM]; exact wrap_pow_i64 _ (by omega)
            obtain ⟨j0, hj0, hy0, hy1, hy2⟩ := info_parts infoSet
            have HM := Lib.hid hM
            clear hL hln hM hm hm6
            have LB : Hid (w.heap.size < wr.heap.size) := KB.out.lt
            have H6 : Hid (intsL L ≠ [] → ∀ b o, p6 = some ⟨b, o, none⟩ → b ≠ wr.heap.size) := fun hne b o e => by have := Cells.old HC6.out hne b o e; omega
            have H7 : Hid (intsL (L.map (hold ls n)) ≠ [] → ∀ b o, p7 = some ⟨b, o, none⟩ → b ≠ wr.heap.size) := fun hne b o e => by have := Cells.old HC7.out hne b o e; omega
            go_upto_region 27 with (first | (at_make; refine wpList_make_full _ rfl _ _ 54 rfl 0 25 j0 _ 4 Tryd.underlying54 hj0 hy0 hy1 .i64 .i64 (M : Int) (M : Int) M rfl rfl rfl rfl (by rw [hy2]; omega) (by simp only [maxLen]; omega) (Nat.zero_le _) ?_; intro V1 hown hgr; have HB1 := Lib.hid (owns_full hown); have HV1 : Hid (Below wr.heap.size wr V1) := ⟨hgr.os, hgr.tape, hgr.output, hgr.size, fun k hk => hgr.block k hk (by simp)⟩; clear hown hgr))
            refine named (fun V => HtE w p6 p7 L (L.map (hold ls n)) wr.heap.size M (beV ls 1) V) ⟨by have := HB1.out; rw [made_be, beV_one ls] at this; exact this, HC6.out.below HV1.out, HC7.out.below HV1.out, KB.out.below HV1.out KB.out.lt, KW.out.trans (HV1.out.mono KW.out.size)⟩ ?_
            clear HB1 HV1 HC6 HC7 KB KW hj0 hy0 hy1 hy2 hi0 hz0 hz1 hz2 hsh
            rintro V0 E0
            replace E0 := Lib.hid E0
            generalize wr.heap.size = bB at E0 LB H6 H7 ⊢
            go_wp2_with fail
            go_loopw [14] (fun tm wv => ∃ mask : Nat, 1 ≤ mask ∧ mask ≤ M ∧ tm = .int .i64 mask ∧ HtE w p6 p7 L (L.map (hold ls n)) bB M (beV ls mask) wv) (fun tm _ => M - (intOf tm).toNat)
            case atStart => exact ⟨1, by omega, hM1, rfl, E0.out⟩
            case round =>
              obtain ⟨mask, hm1, hm2, rfl, hE⟩ := hrel
              have E := Lib.hid hE
              clear hE E0
              by_cases hmM : mask < M
              · have hst := hitV_step HLS.out (by rw [← HN.out]; exact hlen') (show mask ≠ 0 by omega) (by rw [← HN.out, ← HM.out]; exact hmM)
                have hcs := ctz_spec mask (by omega) (by omega)
                obtain ⟨fb, hfb⟩ : ∃ fb, fb = Lib.ctz 64 mask := ⟨_, rfl⟩
                rw [← hfb] at hst hcs
                have HFB : Hid (mask.testBit fb = true ∧ ∀ t, t < fb → mask.testBit t = false) := ⟨hst.2.1, hcs.2.2⟩
                have hfn : fb < n := by rw [HN.out]; exact hst.1
                clear hst hcs hfb
                have tE1 : decide ((mask : Int) < (M : Int)) = true := decide_eq_true (by omega)
                have tE2 : decide (mask < M) = true := decide_eq_true hmM
                go_wp2_with fail
                go_loopw [15] (fun tf wv => ∃ f : Nat, f ≤ fb ∧ tf = .int .i64 f ∧ HtE w p6 p7 L (L.map (hold ls n)) bB M (beV ls mask) wv) (fun tf _ => fb - (intOf tf).toNat)
                case atStart => exact ⟨0, by omega, rfl, E.out⟩
                case round =>
                  obtain ⟨f, hf, rfl, hE⟩ := hrel
                  have E2 := Lib.hid hE
                  clear hE E
                  by_cases hff : f < fb
                  · have hb1 : bits .and .i64 ((mask : Int) / (2 : Int) ^ f) 1 = 0 := by rw [and_one_i mask f (by omega), HFB.out.2 f hff]; rfl
                    go_wp2_with fail
                    exact ⟨⟨f + 1, by omega, by simp, E2.out⟩, by simp [intOf]; omega⟩
                  · have hfe : fb = f := by omega
                    subst hfe
                    have hb1 : bits .and .i64 ((mask : Int) / (2 : Int) ^ fb) 1 = 1 := by rw [and_one_i mask fb (by omega), HFB.out.1]; rfl
                    go_upto_region 34 with (fail)
                    clear hb1
                    go_wp2_with fail
                    go_loopw [16, 17] (fun tg ti wv => ∃ (i : Nat) (acc : Option Nat), i ≤ ln ∧ ti = .int .i64 i ∧ tg = .bool acc.isSome ∧ Hid (acc = accO ls L fb mask i) ∧ Hid (∀ t, acc = some t → t < 2 ^ 256) ∧ HtE w p6 p7 L (L.map (hold ls n)) bB M (updN (beV ls mask) mask (acc.getD 0)) wv) (fun _ ti _ => ln - (intOf ti).toNat)
                    case atStart => exact ⟨0, none, by omega, rfl, rfl, rfl, (fun t h => by cases h), by rw [Option.getD_none, beV_zero]; exact E2.out⟩
                    case round =>
                      obtain ⟨i, acc, hi, rfl, rfl, HA, HAL, hE⟩ := hrel
                      have E3 := Lib.hid hE
                      clear hE E2
                      by_cases hin : i < ln
                      · have hiL : i < L.length := by rw [← HLN.out]; exact hin
                        obtain ⟨g6, g7, hg6, hg7⟩ := HG.out (by omega)
                        subst hg6
                        subst hg7
                        obtain ⟨r, hr⟩ : ∃ r, r = L[i] := ⟨_, rfl⟩
                        have hr6 : r < 256 := HL6.out r (by rw [hr]; exact List.getElem_mem _)
                        obtain ⟨hr_, hhr⟩ : ∃ h, h = hold ls n r := ⟨_, rfl⟩
                        have hh16 : hr_ < 65536 := by rw [hhr]; exact Nat.lt_of_lt_of_le (hold_lt ls r n) (Nat.pow_le_pow_right (n := 2) (by decide) hlen')
                        have hlm : i < (L.map (hold ls n)).length := by rw [List.length_map]; exact hiL
                        have HCa : Hid (∀ W be, HtE w (some ⟨g6, 0, none⟩) (some ⟨g7, 0, none⟩) L (L.map (hold ls n)) bB M be W → W.cell? ⟨g6, 0 + i, none⟩ = some (.int .i64 (r : Int)) ∧ W.cell? ⟨g7, 0 + i, none⟩ = some (.int .i64 (hr_ : Int))) := fun W be h => by
                          have a1 := cells_int h.2.1 rfl hiL
                          have a2 := cells_int h.2.2.1 rfl hlm
                          rw [List.getElem_map] at a2
                          rw [hhr, hr]
                          exact ⟨a1, a2⟩
                        have HRE := Lib.hid hr
                        have HHR := Lib.hid hhr
                        clear hr hhr hlm
                        have c7 := (HCa.out _ _ E3.out).2
                        rw [Nat.zero_add] at c7
                        cases hbt : hr_.testBit fb with
                        | false =>
                          have HNX : Hid (accO ls L fb mask (i + 1) = acc) := by
                            rw [Hid, accO_skip hiL (by rw [← HRE.out, ← HN.out, ← HHR.out]; exact hbt), HA.out]
                          have hb1 : bits .and .i64 ((hr_ : Int) / (2 : Int) ^ fb) 1 = 0 := by rw [and_one_i hr_ fb (by omega), hbt]; rfl
                          clear hbt
                          go_wp2_with fail
                          exact ⟨⟨i + 1, acc, by omega, by simp, rfl, HNX.out.symm, HAL.out, E3.out⟩, by simp [intOf]; omega⟩
                        | true =>
                          have HNX : Hid (accO ls L fb mask (i + 1) = hitS (fun m => hitV ls (diff mask (hold ls n m))) acc r) := by
                            rw [Hid, accO_step hiL (by rw [← HRE.out, ← HN.out, ← HHR.out]; exact hbt), HA.out, HRE.out, HN.out]
                          have hb1 : bits .and .i64 ((hr_ : Int) / (2 : Int) ^ fb) 1 = 1 := by rw [and_one_i hr_ fb (by omega), hbt]; rfl
                          obtain ⟨dm, hdm⟩ : ∃ dm, dm = diff mask hr_ := ⟨_, rfl⟩
                          have hdl : dm < mask := by
                            rw [hdm]
                            refine Nat.lt_of_le_of_ne (diff_le _ _) fun e => ?_
                            have h2 : (diff mask hr_).testBit fb = false := by rw [testBit_diff, HFB.out.1, hbt]; rfl
                            rw [e, HFB.out.1] at h2
                            cases h2
                          have hdM : dm < M := by omega
                          have HDM := Lib.hid hdm
                          obtain ⟨H0, hH0⟩ : ∃ H0, H0 = hitV ls dm := ⟨_, rfl⟩
                          have HH0 : Hid (H0 < 2 ^ 256) := by
                            rw [Hid, hH0]
                            exact (hit_best HLS.out HNZ2.out (by rw [← HN.out]; exact hlen') (dm + 1) dm (by omega) (by rw [← HN.out, ← HM.out]; exact hdM)).1
                          have HBE : Hid (updN (beV ls mask) mask (acc.getD 0) dm = H0) := by
                            rw [Hid, updN_ne _ _ (by omega), hH0]; unfold beV; rw [if_pos hdl]
                          obtain ⟨X, hX⟩ : ∃ X, X = H0 ||| 2 ^ r := ⟨_, rfl⟩
                          have HX2 : Hid (X < 2 ^ 256) := by rw [Hid, hX]; exact Nat.or_lt_two_pow HH0.out (pow_lt256 hr6)
                          have HWi : Hid (∀ w, Calls Tryd.prog 66 #[setV H0, .int .i64 r] w fun e w' => e = .returned (setV X) ∧ Below w.heap.size w w') := fun w => by rw [hX]; exact rwith_in H0 r w hr6
                          have HXX : Hid (hitV ls (diff mask (hold ls n r)) ||| 2 ^ r = X) := by rw [Hid, ← HHR.out, ← HDM.out, ← hH0, hX]
                          clear hbt hdm hH0 hX
                          go_upto_region 38 with (fail)
                          clear c7 hb1
                          refine wp_region_old2 (Z := (fun e => if e = 25 then Tryd.zv25 else .bool false)) 15 148 [25] (by kernel_rfl) (by kernel_rfl) (by kernel_rfl) (by kernel_rfl) (by intro e he w; simp only [List.mem_cons, List.not_mem_nil, or_false] at he; rcases he with rfl <;> first | exact Tryd.zeroValue25 w) (by rfl) ?_
                          simp only [List.take_succ_cons, List.take_zero, List.drop_succ_cons, List.drop_zero, List.drop_nil]
                          refine chain_move (.slice (some ⟨bB, 0, none⟩) M M) _ (fun _ _ => Below.refl _ _) rfl rfl (by kernel_rfl) (by kernel_rfl) rfl ?_
                          refine chain_move (.int .i64 mask) _ (fun _ _ => Below.refl _ _) rfl rfl (by kernel_rfl) (by kernel_rfl) rfl ?_
                          refine chain_move (.slice (some ⟨g7, 0, none⟩) ln cap7) _ (fun _ _ => Below.refl _ _) rfl rfl (by kernel_rfl) (by kernel_rfl) rfl ?_
                          refine chain_move (.int .i64 i) _ (fun _ _ => Below.refl _ _) rfl rfl (by kernel_rfl) (by kernel_rfl) rfl ?_
                          refine chain_idx (.pointer (some ⟨g7, 0 + i, none⟩)) _ _ _ (.slice (some ⟨g7, 0, none⟩) ln cap7) (.int .i64 i) (fun _ _ => Below.refl _ _) rfl rfl (by kernel_rfl) (by kernel_rfl) rfl rfl (fun w1 => idx_int _ _ _ _ _ hin w1) ?_
                          refine chain_load (.int .i64 hr_) _ _ _ (fun _ _ => Below.refl _ _) rfl rfl (by kernel_rfl) (by kernel_rfl) rfl (fun w1 hC => load_intp (HCa.out w1 _ (E3.out.old hC)).2) ?_
                          refine chain_bin (.int .i64 dm) _ _ _ _ _ (.int .i64 mask) (.int .i64 hr_) (fun _ _ => Below.refl _ _) rfl rfl (by kernel_rfl) (by kernel_rfl) rfl rfl (fun w1 => andnot_i _ _ _ mask hr_ dm HDM.out (by omega) (by omega) w1) ?_
                          refine chain_idx (.pointer (some ⟨bB, 0 + dm * 4, none⟩)) _ _ _ (.slice (some ⟨bB, 0, none⟩) M M) (.int .i64 dm) (fun _ _ => Below.refl _ _) rfl rfl (by kernel_rfl) (by kernel_rfl) rfl rfl (fun w1 => idx_setp _ _ _ _ _ hdM w1) ?_
                          refine chain_load (setV H0) _ _ _ (fun _ _ => Below.refl _ _) rfl rfl (by kernel_rfl) (by kernel_rfl) rfl (fun w1 hC => by have := load_be (E3.out.old hC).1 hdM; rwa [HBE.out] at this) ?_
                          refine chain_move (.slice (some ⟨g6, 0, none⟩) ln cap6) _ (fun _ _ => Below.refl _ _) rfl rfl (by kernel_rfl) (by kernel_rfl) rfl ?_
                          refine chain_move (.int .i64 i) _ (fun _ _ => Below.refl _ _) rfl rfl (by kernel_rfl) (by kernel_rfl) rfl ?_
                          refine chain_idx (.pointer (some ⟨g6, 0 + i, none⟩)) _ _ _ (.slice (some ⟨g6, 0, none⟩) ln cap6) (.int .i64 i) (fun _ _ => Below.refl _ _) rfl rfl (by kernel_rfl) (by kernel_rfl) rfl rfl (fun w1 => idx_int _ _ _ _ _ hin w1) ?_
                          refine chain_load (.int .i64 r) _ _ _ (fun _ _ => Below.refl _ _) rfl rfl (by kernel_rfl) (by kernel_rfl) rfl (fun w1 hC => load_intp (HCa.out w1 _ (E3.out.old hC)).1) ?_
                          refine chain_call (setV X) 66 [setV H0, .int .i64 r] _ _ (enters_of Tryd.func66 (by kernel_rfl) rfl) rfl rfl rfl (by kernel_rfl) (by kernel_rfl) rfl rfl (fun w1 _ => HWi.out w1) ?_
                          refine chain_alloc 25 Tryd.zv25 rfl rfl (by kernel_rfl) (by kernel_rfl) (fun w => Tryd.zeroValue25 w) ?_
                          refine chain_end2 (by rfl) ?_
                          intro xs w5 hCw5 hrew5 hNw5
                          simp only [layE, List.foldr_cons, List.foldr_nil, List.set_cons_succ, List.set_cons_zero] at hNw5 ⊢
                          obtain ⟨s14, hb14⟩ := hrew5 18 ptr_w rfl
                          simp only [hb14] at hNw5 ⊢
                          obtain ⟨bx14, hx14, hB14, hk14⟩ := hNw5.1 14 _ _ 18 (by decide) (by rfl) (by rfl) rfl rfl rfl
                          obtain rfl : s14 = bx14 := by simpa using hx14
                          clear hx14
                          clear hNw5 hrew5 hb14
                          have z14 : Blk w5 s14 (setA 0) 25 := by rw [setA_zero]; exact hk14
                          have hlow : Hid (wr.heap.size ≤ s14) := hB14
                          have hbel : Hid (Below wr.heap.size wr w5) := (Below.refl _ wr).drew.trans hCw5
                          have Z14 := Lib.hid z14
                          obtain ⟨x0, x1, x2, x3, xf⟩ := z14.set4
                          have HNE : Hid (s14 ≠ bB) := by have h1 := hlow.out; have h2 := E3.out.1.lt; unfold Hid; omega
                          clear hCw5 hk14 hB14 z14
                          simp only [setV]
                          go_upto_region 39 with (fail)
                          refine named (fun V => HtE w (some ⟨g6, 0, none⟩) (some ⟨g7, 0, none⟩) L (L.map (hold ls n)) bB M (updN (beV ls mask) mask (acc.getD 0)) V ∧ Blk V s14 (setA X) 25) ⟨E3.out.below (below_put4 hbel.out hlow.out _ _ _ _), Z14.out.putS X⟩ ?_
                          clear E3 hlow hbel Z14 x0 x1 x2 x3 xf HCa HWi HBE HDM
                          rintro V6 ⟨E6, K18⟩
                          replace E6 := Lib.hid E6
                          replace K18 := Lib.hid K18
                          cases acc with
                          | none =>
                            have HN2 : Hid (accO ls L fb mask (i + 1) = some X) := by
                              rw [Hid, HNX.out]
                              show some (hitV ls (diff mask (hold ls n r)) ||| 2 ^ r) = some X
                              rw [HXX.out]
                            refine wp_region_old 10 148 (by kernel_rfl) (by kernel_rfl) (by rfl) ?_
                            simp only [List.take_succ_cons, List.take_zero, List.drop_succ_cons, List.drop_zero, List.drop_nil]
                            refine chain_move (.bool false) _ (fun _ _ => Below.refl _ _) rfl rfl (by kernel_rfl) (by kernel_rfl) rfl ?_
                            refine chain_un (.bool true) _ _ _ (.bool false) (fun _ _ => Below.refl _ _) rfl rfl (by kernel_rfl) (by kernel_rfl) rfl (fun w => un_not _ w) ?_
                            refine chain_move (.bool true) _ (fun _ _ => Below.refl _ _) rfl rfl (by kernel_rfl) (by kernel_rfl) rfl ?_
                            refine chain_skip rfl (by kernel_rfl) ?_
                            refine chain_skip rfl (by kernel_rfl) ?_
                            refine chain_skip rfl (by kernel_rfl) ?_
                            refine chain_skip rfl (by kernel_rfl) ?_
                            refine chain_skip rfl (by kernel_rfl) ?_
                            refine chain_skip rfl (by kernel_rfl) ?_
                            refine chain_pick (.bool true) _ _ _ true (fun _ _ => Below.refl _ _) rfl rfl (by kernel_rfl) (by kernel_rfl) rfl rfl ?_
                            refine chain_end (by rfl) ?_
                            intro xs w7 hCw7 hrew7
                            simp only [layE, List.foldr_cons, List.foldr_nil, List.set_cons_succ, List.set_cons_zero]
                            have E7 := Lib.hid (E6.out.old hCw7)
                            have K7 := Lib.hid (K18.out.drew.below hCw7 K18.out.lt)
                            clear hCw7 hrew7 E6 K18
                            obtain ⟨e0, e1, e2, e3, ef⟩ := beA_cells E7.out.1 hmM
                            obtain ⟨k0, k1, k2, k3, kf⟩ := K7.out.set4
                            go_wp2_with fail
                            have hp := E7.out.put H6.out H7.out LB.out hmM X
                            rw [updN_updN] at hp
                            exact ⟨⟨i + 1, some X, by omega, by simp, rfl, HN2.out.symm, (fun t h => by cases h; exact HX2.out), hp⟩, by simp [intOf]; omega⟩
                          | some t =>
                            have HTL : Hid (t < 2 ^ 256) := HAL.out t rfl
                            have HBt : Hid (∀ w, Calls Tryd.prog 81 #[setV X, setV t] w fun e w' => e = .returned (.bool (betB X t)) ∧ Below w.heap.size w w') := fun w => rbetter_any X t w HX2.out HTL.out
                            obtain ⟨z, hz⟩ : ∃ z, z = betB X t := ⟨_, rfl⟩
                            rw [← hz] at HBt
                            have HNS : Hid (accO ls L fb mask (i + 1) = if z then some X else some t) := by
                              rw [Hid, HNX.out]
                              show (if betB (hitV ls (diff mask (hold ls n r)) ||| 2 ^ r) t then some (hitV ls (diff mask (hold ls n r)) ||| 2 ^ r) else some t) = _
                              rw [HXX.out, hz]
                            clear hz
                            cases z with
                            | true =>
                              have HN2 : Hid (accO ls L fb mask (i + 1) = some X) := by rw [Hid, HNS.out]; rfl
                              refine wp_region_old 10 148 (by kernel_rfl) (by kernel_rfl) (by rfl) ?_
                              simp only [List.take_succ_cons, List.take_zero, List.drop_succ_cons, List.drop_zero, List.drop_nil]
                              refine chain_move (.bool true) _ (fun _ _ => Below.refl _ _) rfl rfl (by kernel_rfl) (by kernel_rfl) rfl ?_
                              refine chain_un (.bool false) _ _ _ (.bool true) (fun _ _ => Below.refl _ _) rfl rfl (by kernel_rfl) (by kernel_rfl) rfl (fun w => un_not _ w) ?_
                              refine chain_move (.bool false) _ (fun _ _ => Below.refl _ _) rfl rfl (by kernel_rfl) (by kernel_rfl) rfl ?_
                              refine chain_load (setV X) _ _ _ (fun _ _ => Below.refl _ _) rfl rfl (by kernel_rfl) (by kernel_rfl) rfl (fun w1 hC => load_set (K18.out.drew.below hC K18.out.lt)) ?_
                              refine chain_move (.slice (some ⟨bB, 0, none⟩) M M) _ (fun _ _ => Below.refl _ _) rfl rfl (by kernel_rfl) (by kernel_rfl) rfl ?_
                              refine chain_move (.int .i64 mask) _ (fun _ _ => Below.refl _ _) rfl rfl (by kernel_rfl) (by kernel_rfl) rfl ?_
                              refine chain_idx (.pointer (some ⟨bB, 0 + mask * 4, none⟩)) _ _ _ (.slice (some ⟨bB, 0, none⟩) M M) (.int .i64 mask) (fun _ _ => Below.refl _ _) rfl rfl (by kernel_rfl) (by kernel_rfl) rfl rfl (fun w1 => idx_setp _ _ _ _ _ hmM w1) ?_
                              refine chain_load (setV t) _ _ _ (fun _ _ => Below.refl _ _) rfl rfl (by kernel_rfl) (by kernel_rfl) rfl (fun w1 hC => by have := load_be (E6.out.old hC).1 hmM; rwa [updN_at] at this) ?_
                              refine chain_call (.bool true) 81 [setV X, setV t] _ _ (enters_of Tryd.func81 (by kernel_rfl) rfl) rfl rfl rfl (by kernel_rfl) (by kernel_rfl) rfl rfl (fun w1 _ => HBt.out w1) ?_
                              refine chain_pick (.bool true) _ _ _ false (fun _ _ => Below.refl _ _) rfl rfl (by kernel_rfl) (by kernel_rfl) rfl rfl ?_
                              refine chain_end (by rfl) ?_
                              intro xs w7 hCw7 hrew7
                              simp only [layE, List.foldr_cons, List.foldr_nil, List.set_cons_succ, List.set_cons_zero]
                              have E7 := Lib.hid (E6.out.old hCw7)
                              have K7 := Lib.hid (K18.out.drew.below hCw7 K18.out.lt)
                              clear hCw7 hrew7 E6 K18
                              obtain ⟨e0, e1, e2, e3, ef⟩ := beA_cells E7.out.1 hmM
                              obtain ⟨k0, k1, k2, k3, kf⟩ := K7.out.set4
                              go_wp2_with fail
                              have hp := E7.out.put H6.out H7.out LB.out hmM X
                              rw [updN_updN] at hp
                              exact ⟨⟨i + 1, some X, by omega, by simp, rfl, HN2.out.symm, (fun t h => by cases h; exact HX2.out), hp⟩, by simp [intOf]; omega⟩
                            | false =>
                              have HN2 : Hid (accO ls L fb mask (i + 1) = some t) := by rw [Hid, HNS.out]; rfl
                              refine wp_region_old 10 148 (by kernel_rfl) (by kernel_rfl) (by rfl) ?_
                              simp only [List.take_succ_cons, List.take_zero, List.drop_succ_cons, List.drop_zero, List.drop_nil]
                              refine chain_move (.bool true) _ (fun _ _ => Below.refl _ _) rfl rfl (by kernel_rfl) (by kernel_rfl) rfl ?_
                              refine chain_un (.bool false) _ _ _ (.bool true) (fun _ _ => Below.refl _ _) rfl rfl (by kernel_rfl) (by kernel_rfl) rfl (fun w => un_not _ w) ?_
                              refine chain_move (.bool false) _ (fun _ _ => Below.refl _ _) rfl rfl (by kernel_rfl) (by kernel_rfl) rfl ?_
                              refine chain_load (setV X) _ _ _ (fun _ _ => Below.refl _ _) rfl rfl (by kernel_rfl) (by kernel_rfl) rfl (fun w1 hC => load_set (K18.out.drew.below hC K18.out.lt)) ?_
                              refine chain_move (.slice (some ⟨bB, 0, none⟩) M M) _ (fun _ _ => Below.refl _ _) rfl rfl (by kernel_rfl) (by kernel_rfl) rfl ?_
                              refine chain_move (.int .i64 mask) _ (fun _ _ => Below.refl _ _) rfl rfl (by kernel_rfl) (by kernel_rfl) rfl ?_
                              refine chain_idx (.pointer (some ⟨bB, 0 + mask * 4, none⟩)) _ _ _ (.slice (some ⟨bB, 0, none⟩) M M) (.int .i64 mask) (fun _ _ => Below.refl _ _) rfl rfl (by kernel_rfl) (by kernel_rfl) rfl rfl (fun w1 => idx_setp _ _ _ _ _ hmM w1) ?_
                              refine chain_load (setV t) _ _ _ (fun _ _ => Below.refl _ _) rfl rfl (by kernel_rfl) (by kernel_rfl) rfl (fun w1 hC => by have := load_be (E6.out.old hC).1 hmM; rwa [updN_at] at this) ?_
                              refine chain_call (.bool false) 81 [setV X, setV t] _ _ (enters_of Tryd.func81 (by kernel_rfl) rfl) rfl rfl rfl (by kernel_rfl) (by kernel_rfl) rfl rfl (fun w1 _ => HBt.out w1) ?_
                              refine chain_pick (.bool false) _ _ _ false (fun _ _ => Below.refl _ _) rfl rfl (by kernel_rfl) (by kernel_rfl) rfl rfl ?_
                              refine chain_end (by rfl) ?_
                              intro xs w7 hCw7 hrew7
                              simp only [layE, List.foldr_cons, List.foldr_nil, List.set_cons_succ, List.set_cons_zero]
                              have E7 := Lib.hid (E6.out.old hCw7)
                              clear hCw7 hrew7 E6 K18
                              go_wp2_with fail
                              exact ⟨⟨i + 1, some t, by omega, by simp, rfl, HN2.out.symm, HAL.out, E7.out⟩, by simp [intOf]; omega⟩
                      · have HAC : Hid (acc = some (hitV ls mask)) := by
                          rw [Hid, HA.out, HL.out]
                          exact accO_all HLS.out HNZ2.out (by rw [← HN.out]; exact hlen') (by rw [← HN.out, ← HM.out]; exact hmM) HFB.out.1 (by rw [← HL.out, ← HLN.out]; omega)
                        go_wp2_with fail
                        exact ⟨⟨mask + 1, by omega, by omega, by simp, by have := E3.out; rw [HAC.out, Option.getD_some, beV_next] at this; exact this⟩, by simp [intOf]; omega⟩
              · obtain ⟨q, hq⟩ : ∃ q, q = M - 1 := ⟨_, rfl⟩
                have hqM : q < M := by omega
                have hqi : (M : Int) - 1 = (q : Int) := by omega
                obtain ⟨R, hR⟩ : ∃ R, R = hitV ls q := ⟨_, rfl⟩
                have HRF : Hid (hitR ls = .tuple #[setV R, .bool true, .int .i64 0]) := by rw [Hid, HRR.out, hR, hq, HM.out]
                obtain ⟨e0, e1, e2, e3, ef⟩ := beA_cells E.out.1 hqM
                have hbe : beV ls mask q = R := by unfold beV; rw [if_pos (by omega), hR]
                rw [hbe] at e0 e1 e2 e3
                obtain ⟨d0, d1, d2, d3, df⟩ := E.out.2.2.2.1.set4
                clear hq hR hbe
                go_wp2_with fail
                refine named (fun U => Blk U w.heap.size (setA R) 25 ∧ Below w.heap.size w U) ⟨E.out.2.2.2.1.put4 rfl _ _ _ _, below_put4 E.out.2.2.2.2 (Nat.le_refl _) _ _ _ _⟩ ?_
                rintro U ⟨hU, hbU⟩
                obtain ⟨q0, q1, q2, q3, _⟩ := hU.set4
                exact bodyPost_ret (v := .tuple #[setV R, .bool true, .int .i64 0]) (by simp [results, Tryd.results56, go_sem, q0, q1, q2, q3, setV]) rfl ⟨by rw [HRF.out], hbU⟩
end Go.Proofs.YtjifajigigflkaaDoor
namespace Go.Proofs.YtjifajigigflkaaDoor
set_option linter.unusedSimpArgs false
set_option linter.unusedVariables false
open Go Go.RowKit
attribute [local go_sem] equalIn_words setV

theorem ints_self (a a' : Option Addr) (cap cap' k : Nat) (xs : List Nat) (w : World) (hk : k = xs.length) (hk2 : k ≤ 16) (hx : Cells w a (intsL xs)) (hy : Cells w a' (intsL xs)) :
    Calls Tryd.prog 25 #[.slice a k cap, .slice a' k cap'] w fun e w' => e = .returned (.bool true) ∧ Below w.heap.size w w' := by
  have hm : intsL xs = (xs.map fun (x : Nat) => (x : Int)).map (Value.int .i64) := by unfold intsL; rw [List.map_map]; rfl
  have := ints_any a a' cap cap' (xs.map fun (x : Nat) => (x : Int)) (xs.map fun (x : Nat) => (x : Int)) w (by rw [← hm]; exact hx) (by rw [← hm]; exact hy) (by rw [List.length_map]; omega) (by rw [List.length_map]; omega)
  rw [List.length_map, ← hk] at this
  simpa using this
theorem cover_post {ls : List Nat} {S : Nat} : ∃ (is : Bool) (st : Int) (q : List Nat), q.length ≤ 16 ∧ ∀ w e w', CoverPost ls S w e w' → ∃ a5 cap5, e = .returned (.tuple #[.slice a5 q.length cap5, .bool is, .int .i64 st]) ∧ Cells w' a5 (intsL q) ∧ Below w.heap.size w w' := by
  by_cases h16 : 16 < ls.length
  · refine ⟨false, 2, [], by decide, fun w e w' hp => ?_⟩
    obtain ⟨hb, (⟨_, h1⟩ | ⟨h, _⟩ | ⟨h, _⟩)⟩ := hp
    · exact ⟨none, 0, h1, .inl rfl, hb⟩
    · omega
    · omega
  · cases hq : cov ls ls.length S 0 with
    | none =>
      refine ⟨false, 0, [], by decide, fun w e w' hp => ?_⟩
      unfold CoverPost at hp
      rw [hq] at hp
      obtain ⟨hb, (⟨h1, _⟩ | ⟨_, _, h2⟩ | ⟨_, q, v, h1, _⟩)⟩ := hp
      · omega
      · exact ⟨none, 0, h2, .inl rfl, hb⟩
      · cases h1
    | some q =>
      refine ⟨true, 0, q, by have := cov_len hq; omega, fun w e w' hp => ?_⟩
      unfold CoverPost at hp
      rw [hq] at hp
      obtain ⟨hb, (⟨h1, _⟩ | ⟨_, h1, _⟩ | ⟨_, q', v, h1, h2, h3⟩)⟩ := hp
      · omega
      · cases h1
      · cases h1
        obtain ⟨_, a9, cap9, rfl, hc, _⟩ := ownsRow_cells h3
        exact ⟨a9, cap9, h2, hc, hb⟩
theorem hitR_is (ls : List Nat) : ∃ (M : Nat) (c : Bool) (st : Int), hitR ls = .tuple #[setV M, .bool c, .int .i64 st] := by
  unfold hitR
  split
  · exact ⟨_, _, _, rfl⟩
  · split
    · exact ⟨_, _, _, rfl⟩
    · exact ⟨_, _, _, rfl⟩
/-- What the law's worlds keep. -/
def CwS (S : Nat) (b2 : Nat) (w V : World) : Prop := Gl V ∧ Below w.heap.size w V ∧ Blk V b2 (setA S) 25
theorem CwS.below {S b2 : Nat} {w V V' : World} (h : CwS S b2 w V) (hb : Below V.heap.size V V') : CwS S b2 w V' :=
  ⟨h.1.below hb, h.2.1.trans (hb.mono h.2.1.size), h.2.2.below hb h.2.2.lt⟩
set_option maxRecDepth 100000 in
set_option maxHeartbeats 4000000 in
theorem bitsCovers_any (hsane : SaneOk) (S : Nat) (a : Option Addr) (cap : Nat) (ls : List Nat) (w : World) (hg : Gl w) (hS : S < 2 ^ 256) (hl : ls.length ≤ 9223372036854775807) (hls : ∀ N ∈ ls, N < 2 ^ 256) (hs : SetCells w a ls) (ho : ∀ ad, a = some ad → ad.block < w.heap.size) :
    Calls Tryd.prog 7 #[setV S, .slice a ls.length cap] w fun e w' => e = .returned (.bool true) ∧ Below w.heap.size w w' := by
  have HS : Hid SaneOk := hsane
  have HG := Lib.hid hg
  have HSC : Hid (∀ W, Below w.heap.size w W → SetCells W a ls ∧ ∀ ad, a = some ad → ad.block < W.heap.size) := fun W hb => ⟨hs.below ho hb, fun ad e => Nat.lt_of_lt_of_le (ho ad e) hb.size⟩
  by_cases h100 : ls.length ≤ 100
  · obtain ⟨is_, st, q, hq16, hcp⟩ := @cover_post ls S
    obtain ⟨M, can, st2, hhr⟩ := hitR_is ls
    have HC1 : Hid (∀ W, Below w.heap.size w W → Calls Tryd.prog 53 #[setV S, .slice a ls.length cap] W fun e w' => ∃ a5 cap5, e = .returned (.tuple #[.slice a5 q.length cap5, .bool is_, .int .i64 st]) ∧ Cells w' a5 (intsL q) ∧ Below W.heap.size W w') := fun W hb => (cover_any S a cap ls W hS hls hl (HSC.out W hb).1 (HSC.out W hb).2).mono fun e w' hp => hcp W e w' hp
    have HC2 : Hid (∀ W, Below w.heap.size w W → Calls Tryd.prog 54 #[setV S, .slice a ls.length cap] W fun e w' => ∃ a5 cap5, e = .returned (.tuple #[.slice a5 q.length cap5, .bool is_, .int .i64 st]) ∧ Cells w' a5 (intsL q) ∧ Below W.heap.size W w') := fun W hb => (rCover_any S a cap ls W hS hls h100 (HSC.out W hb).1 (HSC.out W hb).2).mono fun e w' hp => hcp W e w' hp
    have HH1 : Hid (∀ W, Gl W → Below w.heap.size w W → Calls Tryd.prog 55 #[.slice a ls.length cap] W fun e w' => e = .returned (.tuple #[setV M, .bool can, .int .i64 st2]) ∧ Below W.heap.size W w') := fun W hg hb => by
      have := hit_any a cap ls W hg hls hl (HSC.out W hb).1 (HSC.out W hb).2
      rwa [hhr] at this
    have HH2 : Hid (∀ W, Below w.heap.size w W → Calls Tryd.prog 56 #[.slice a ls.length cap] W fun e w' => e = .returned (.tuple #[setV M, .bool can, .int .i64 st2]) ∧ Below W.heap.size W w') := fun W hb => by
      have := rHit_any a cap ls W hls h100 (HSC.out W hb).1 (HSC.out W hb).2
      rwa [hhr] at this
    obtain ⟨n, hn⟩ : ∃ n, n = ls.length := ⟨_, rfl⟩
    obtain ⟨L, hL⟩ : ∃ L, L = q.length := ⟨_, rfl⟩
    rw [← hn] at h100 hl HC1 HC2 HH1 HH2 ⊢
    rw [← hL] at hq16 HC1 HC2
    have HQ := Lib.hid hL
    clear HSC hg hS hls hs ho hsane hn hcp hhr hL
    have hcase : n ≤ 9 ∨ 10 ≤ n ∧ n ≤ 16 ∨ 17 ≤ n := by omega
    rcases hcase with h9 | ⟨h10, h16⟩ | h17
    rotate_left 1
    · clear HC1 HC2 HH1 HH2
      go_enter Tryd.func7, Tryd.ntmps7
      simp only [setV]
      go_wp2_with (first | (go_at_call 16; refine (HS.out _ (HG.out.below (below_new1 _ _))).mono ?_; rintro e w2 ⟨rfl, hb⟩))
      go_ret
      exact ⟨by simp, (below_new1 _ _).trans (hb.mono (by simp))⟩
    all_goals
      go_enter Tryd.func7, Tryd.ntmps7
      simp only [setV]
      go_upto_region 3 with (first | (go_at_call 16; refine (HS.out _ (HG.out.below (below_new1 _ _))).mono ?_; rintro e w2 ⟨rfl, hb⟩))
      refine named (fun V => CwS S w.heap.size w V) (CwS.below ⟨HG.out.below (below_new1 _ _), below_new1 _ _, Blk.newW _ _ _⟩ hb) ?_
      clear hb HS HG
      rintro W0 F
      replace F := Lib.hid F
      generalize hb2 : w.heap.size = b2 at F ⊢
      have L2 := Lib.hid hb2
      clear hb2
      obtain ⟨c0, c1, c2, c3, cf⟩ := F.out.2.2.set4
      go_upto_region 6 with (first | (go_at_call 53; refine (HC1.out _ F.out.2.1).mono ?_; rintro e w2 ⟨a5, cap5, rfl, h5, hb⟩))
      have F2 := Lib.hid (F.out.below hb)
      have H5 := Lib.hid h5
      clear hb h5 F c0 c1 c2 c3 cf HC1
      obtain ⟨c0, c1, c2, c3, cf⟩ := F2.out.2.2.set4
      go_upto_region 7 with (first | (go_at_call 54; refine (HC2.out _ F2.out.2.1).mono ?_; rintro e w3 ⟨a8, cap8, rfl, h8, hb⟩))
      have F3 := Lib.hid (F2.out.below hb)
      have H53 := Lib.hid (H5.out.below hb)
      have H8 := Lib.hid h8
      clear hb h8 F2 H5 c0 c1 c2 c3 cf HC2
      go_upto_region 8 with (first | (go_at_call 55; refine (HH1.out _ F3.out.1 F3.out.2.1).mono ?_; rintro e w4 ⟨rfl, hb⟩; simp only [setV]))
      refine named (fun V => CwS S b2 w V ∧ Blk V w4.heap.size (setA M) 25 ∧ Cells V a5 (intsL q) ∧ Cells V a8 (intsL q)) ⟨(F3.out.below hb).below (below_new1 _ _), Blk.newW _ _ _, (H53.out.below hb).below (below_new1 _ _), (H8.out.below hb).below (below_new1 _ _)⟩ ?_
      clear hb F3 H53 H8 HH1
      rintro W4 ⟨F4, K11, H54, H84⟩
      replace F4 := Lib.hid F4; replace K11 := Lib.hid K11; replace H54 := Lib.hid H54; replace H84 := Lib.hid H84
      generalize w4.heap.size = b11 at K11 ⊢
      go_upto_region 9 with (first | (go_at_call 56; refine (HH2.out _ F4.out.2.1).mono ?_; rintro e w5 ⟨rfl, hb⟩; simp only [setV]))
      refine named (fun V => CwS S b2 w V ∧ Blk V b11 (setA M) 25 ∧ Blk V w5.heap.size (setA M) 25 ∧ Cells V a5 (intsL q) ∧ Cells V a8 (intsL q)) ⟨(F4.out.below hb).below (below_new1 _ _), (K11.out.below hb K11.out.lt).below (below_new1 _ _) (K11.out.below hb K11.out.lt).lt, Blk.newW _ _ _, (H54.out.below hb).below (below_new1 _ _), (H84.out.below hb).below (below_new1 _ _)⟩ ?_
      clear hb F4 K11 H54 H84 HH2
      rintro W5 ⟨F5, K11, K14, H55, H85⟩
      replace F5 := Lib.hid F5; replace K11 := Lib.hid K11; replace K14 := Lib.hid K14; replace H55 := Lib.hid H55; replace H85 := Lib.hid H85
      generalize w5.heap.size = b14 at K14 ⊢
      have z1 : eqS M M = true := eqS_refl M
      go_wp2_with (first | (go_at_call 25; refine (ints_self a5 a8 cap5 cap8 L q _ HQ.out (by omega) H55.out H85.out).mono ?_; rintro e w6 ⟨rfl, hb⟩; have K116 := K11.out.below hb K11.out.lt; have K146 := K14.out.below hb K14.out.lt; obtain ⟨d0, d1, d2, d3, df⟩ := K116.set4; obtain ⟨g0, g1, g2, g3, gf⟩ := K146.set4; clear K116 K146))
      go_ret
      exact ⟨by cases is_ <;> cases can <;> simp, F5.out.2.1.trans (hb.mono F5.out.2.1.size)⟩
  · obtain ⟨n, hn⟩ : ∃ n, n = ls.length := ⟨_, rfl⟩
    rw [← hn] at h100 hl ⊢
    clear HSC hg hS hls hs ho hsane hn
    have h101 : 101 ≤ n := by omega
    go_enter Tryd.func7, Tryd.ntmps7
    simp only [setV]
    go_wp2_with (first | (go_at_call 16; refine (HS.out _ (HG.out.below (below_new1 _ _))).mono ?_; rintro e w2 ⟨rfl, hb⟩))
    go_ret
    exact ⟨by simp, (below_new1 _ _).trans (hb.mono (by simp))⟩
end Go.Proofs.YtjifajigigflkaaDoor
namespace Go.Proofs.YtjifajigigflkaaDoor
set_option linter.unusedSimpArgs false
set_option linter.unusedVariables false
open Go Go.RowKit Go.ChangeShapes Go.WideShapes
theorem cellsInt : Tryd.prog.cellsOf 3 = 1 := by kernel_rfl
variable {H : Type} {enc : TypeId × Value → H} {W : World} {base : Nat} {sp : Nat → Bool} {held : Bool}
set_option maxRecDepth 100000 in
theorem open_il {r : Reach} {b0 : Nat} {v : Value} {d : DataW H} {ps : List MemPlace} (hval : Value.okWide Tryd.prog W r b0 22 v) (hd : DataW.Trod enc Tryd.prog W base (fun _ => true) held 22 v d ps) :
    ∃ (a : Option Addr) (cap : Nat) (zs : List Int), v = .slice a zs.length cap ∧ zs.length ≤ cap ∧ cap ≤ maxLen ∧ (∀ z ∈ zs, (Lit.int .i64 z).wf = true) ∧ (∀ (i : Nat) (x : Int), zs[i]? = some x → ∃ ad, a = some ad ∧ W.cell? (ad.add i) = some (.int .i64 x)) ∧
      ∀ W' (sp' : Nat → Bool), (∀ b, b < W.heap.size → sp' b = true) → Below W.heap.size W W' → DataW.Trod enc Tryd.prog W' base sp' held 22 v d ps := by
  obtain ⟨a0, len, cap, rfl⟩ := okWide_slice Tryd.underlying22 hval
  obtain ⟨fuel, hf⟩ := hd
  rcases open_ints Tryd.underlying22 Tryd.underlying3 cellsInt hf with ⟨hc, hx⟩ | ⟨a, len', cap', zs, hcs, hb, hl, hm, hz, hx, hcell, hwz⟩
  · simp [Value.cells] at hc
    obtain ⟨rfl, rfl, rfl⟩ := hc
    simp only [Prod.mk.injEq] at hx
    obtain ⟨rfl, rfl⟩ := hx
    exact ⟨none, 0, [], rfl, by simp, by simp [maxLen], fun z hz => (by cases hz), fun i x h => (by simp at h), fun W' _ _ _ => shut_slice_nil Tryd.underlying22⟩
  · simp [Value.cells] at hcs
    obtain ⟨rfl, rfl, rfl⟩ := hcs
    simp only [Prod.mk.injEq] at hx
    obtain ⟨rfl, rfl⟩ := hx
    have hlz : len ≤ zs.length := by rw [hz]; split <;> omega
    have e : (zs.take len).length = len := by rw [List.length_take]; omega
    refine ⟨some a, cap, zs.take len, by rw [e], by rw [e]; exact hl, hm, fun z hz => hwz z (List.mem_of_mem_take hz), fun i x h => ?_, fun W' sp' hsp hB => ?_⟩
    · have hi : i < len := by have := (List.getElem?_eq_some_iff.1 h).1; omega
      refine ⟨a, rfl, ?_⟩
      rw [hcell i (by omega)]
      rw [List.getElem?_take, if_pos hi] at h
      rw [List.getD, h]; rfl
    · refine ⟨_, shut_ints 0 Tryd.underlying22 Tryd.underlying3 cellsInt hb hl hm ?_ (fun i hi => ?_) hwz⟩
      · by_cases h0 : zs.length = 0
        · have hc0 : cap = 0 := by simpa [h0] using hz.symm
          split <;> omega
        · have h1 := hcell 0 (by omega)
          rw [hsp a.block (by have := block_lt_of_cell h1; simpa [Addr.add] using this)]
          simpa using hz
      have h1 := hcell i hi
      rw [World.cell?_of_block (w := W)]
      · exact h1
      · exact hB.block _ (block_lt_of_cell h1)
theorem il_cells {a : Option Addr} {zs : List Int} (h : ∀ (i : Nat) (x : Int), zs[i]? = some x → ∃ ad, a = some ad ∧ W.cell? (ad.add i) = some (.int .i64 x)) : Cells W a (zs.map (Value.int .i64)) := by
  cases zs with
  | nil => exact .inl rfl
  | cons z r =>
    obtain ⟨ad, ha, hc⟩ := h 0 z rfl
    obtain ⟨b, o, spot⟩ := ad
    have hspot : spot = none := by simpa [Addr.add] using World.cell?_spot hc
    subst hspot
    refine .inr ⟨b, o, ha, fun i v hv => ?_⟩
    rw [List.getElem?_map] at hv
    cases hz : (z :: r)[i]? with
    | none => rw [hz] at hv; cases hv
    | some x =>
      rw [hz] at hv
      obtain ⟨ad, ha2, hc2⟩ := h i x hz
      rw [ha] at ha2
      obtain rfl := Option.some.inj ha2
      have e : v = .int .i64 x := (Option.some.inj hv).symm
      rw [e, ← add_plain]; exact hc2
end Go.Proofs.YtjifajigigflkaaDoor
namespace Go.Proofs.YtjifajigigflkaaDoor
set_option linter.unusedSimpArgs false
set_option linter.unusedVariables false
open Go Go.RowKit Go.ChangeShapes Go.WideShapes
variable {H : Type} {enc : TypeId × Value → H} {W : World} {base : Nat} {sp : Nat → Bool} {held : Bool}
set_option maxRecDepth 100000 in
theorem trod_set {fuel : Nat} {cs : List Value} {x : DataW H × List MemPlace} (hlen : cs.length = 4) (hf : DataW.trod enc Tryd.prog W base sp held fuel 25 cs = some x) :
    ∃ N, N < 2 ^ 256 ∧ (∀ j, j < 4 → cs[j]? = some (.int .u64 (word N j))) ∧ x.2 = [] := by
  match cs, hlen with
  | [a, b, c, e], _ =>
    cases fuel with
    | zero => simp [DataW.trod] at hf
    | succ m =>
      rw [DataW.trod_step] at hf
      unfold DataW.trodStep at hf
      simp only [Tryd.underlying25, Value.cells, cellsSet, cellsU64] at hf
      simp only [List.length_cons, List.length_nil, Nat.reduceAdd, if_true, Option.map_eq_some_iff, show List.range 4 = [0, 1, 2, 3] from rfl, List.mapM_cons, List.mapM_nil, bind, Option.bind_eq_some_iff, pure, Option.some.injEq, Nat.mul_one, List.drop_zero, List.drop_succ_cons, List.take_succ_cons, List.take_zero] at hf
      obtain ⟨ys, ⟨y0, h0, r0, ⟨y1, h1, r1, ⟨y2, h2, r2, ⟨y3, h3, r3, rfl, rfl⟩, rfl⟩, rfl⟩, rfl⟩, rfl⟩ := hf
      obtain ⟨n0, e0, rfl, w0⟩ := DataW.trod_int Tryd.underlying23 h0
      obtain ⟨n1, e1, rfl, w1⟩ := DataW.trod_int Tryd.underlying23 h1
      obtain ⟨n2, e2, rfl, w2⟩ := DataW.trod_int Tryd.underlying23 h2
      obtain ⟨n3, e3, rfl, w3⟩ := DataW.trod_int Tryd.underlying23 h3
      rw [wf_u64] at w0 w1 w2 w3
      obtain ⟨m0, rfl⟩ := Int.eq_ofNat_of_zero_le w0.1
      obtain ⟨m1, rfl⟩ := Int.eq_ofNat_of_zero_le w1.1
      obtain ⟨m2, rfl⟩ := Int.eq_ofNat_of_zero_le w2.1
      obtain ⟨m3, rfl⟩ := Int.eq_ofNat_of_zero_le w3.1
      obtain ⟨k0, k1, k2, k3⟩ := word_ofWords (a := m0) (b := m1) (c := m2) (d := m3) (by omega) (by omega) (by omega) (by omega)
      simp only [List.cons.injEq, and_true] at e0 e1 e2 e3
      refine ⟨ofWords m0 m1 m2 m3, ofWords_lt (by omega) (by omega) (by omega) (by omega), fun j hj => ?_, rfl⟩
      have h4 : j = 0 ∨ j = 1 ∨ j = 2 ∨ j = 3 := by omega
      rcases h4 with rfl | rfl | rfl | rfl
      · rw [k0, e0]; rfl
      · rw [k1, e1]; rfl
      · rw [k2, e2]; rfl
      · rw [k3, e3]; rfl
theorem list_of {R : Nat → Nat → Prop} {n : Nat} (h : ∀ i, i < n → ∃ N, R i N) : ∃ ls : List Nat, ls.length = n ∧ ∀ i N, ls[i]? = some N → R i N := by
  refine ⟨(List.range n).map fun i => if h' : i < n then Classical.choose (h i h') else 0, by simp, fun i N hi => ?_⟩
  have hi' : i < n := by have := (List.getElem?_eq_some_iff.1 hi).1; simpa using this
  simp [hi'] at hi
  rw [← hi]
  exact Classical.choose_spec (h i hi')
set_option maxRecDepth 100000 in
theorem shape_lt {W : World} {b : Nat} {x : TypeId × Nat} (h : W.shape? b = some x) : b < W.heap.size := by
  by_cases hb : b < W.heap.size
  · exact hb
  · have : W.heap[b]? = none := Array.getElem?_eq_none (by omega)
    simp [World.shape?, this] at h
set_option maxRecDepth 100000 in
theorem ok_block {r : Reach} {b0 : Nat} {a : Addr} {len cap : Nat} (hval : Value.okWide Tryd.prog W r b0 54 (.slice (some a) len cap)) : a.spot = none ∧ a.block < W.heap.size := by
  simp only [Value.okWide, Tryd.underlying54, Cell.okWide, Cell.ok] at hval
  obtain ⟨_, _, _, hsp, row, cells, hs, _⟩ := hval
  exact ⟨hsp, shape_lt hs⟩
set_option maxRecDepth 100000 in
theorem open_sl {r : Reach} {b0 : Nat} {v : Value} {d : DataW H} {ps : List MemPlace} (hval : Value.okWide Tryd.prog W r b0 54 v) (hd : DataW.Trod enc Tryd.prog W 0 (fun _ => true) true 54 v d ps) :
    ∃ (a : Option Addr) (cap : Nat) (ls : List Nat), v = .slice a ls.length cap ∧ ls.length ≤ cap ∧ cap ≤ maxLen ∧ (∀ N ∈ ls, N < 2 ^ 256) ∧ SetCells W a ls ∧ (∀ ad, a = some ad → ad.block < W.heap.size) ∧
      ∀ W', Below W.heap.size W W' → DataW.Trod enc Tryd.prog W' 0 (fun b => decide (b < W.heap.size)) true 54 v d ps := by
  obtain ⟨a0, len, cap, rfl⟩ := okWide_slice Tryd.underlying54 hval
  have hd' := hd
  obtain ⟨fuel, hf⟩ := hd
  rcases DataW.trod_slice Tryd.underlying54 hf with ⟨hc, hx⟩ | ⟨a, len', cap', elems, rest, n, _, hcs, hx, hb, hl, hm, hlen, hel, hsp, hns⟩
  · simp [Value.cells] at hc
    obtain ⟨rfl, rfl, rfl⟩ := hc
    simp only [Prod.mk.injEq] at hx
    obtain ⟨rfl, rfl⟩ := hx
    refine ⟨none, 0, [], rfl, by simp, by simp [maxLen], (fun z hz => by cases hz), .inl rfl, (fun ad h => by cases h), fun W' hB => ?_⟩
    exact Below.trod (by kernel_rfl) (by kernel_rfl) (by decide +kernel) hd' hB (fun x hx => by cases hx)
  · simp [Value.cells] at hcs
    obtain ⟨rfl, rfl, rfl⟩ := hcs
    simp only [Prod.mk.injEq] at hx
    obtain ⟨rfl, rfl⟩ := hx
    obtain ⟨hspot, hblk⟩ := ok_block hval
    obtain ⟨b, o, spot⟩ := a
    dsimp only at hspot
    subst hspot
    have key : ∀ i, i < len → ∃ N, N < 2 ^ 256 ∧ ∀ j, j < 4 → W.cell? ⟨b, o + i * 4 + j, none⟩ = some (.int .u64 (word N j)) := fun i hi => by
      have h1 := hel i hi
      rw [List.getElem?_eq_getElem (by omega), Option.bind_eq_some_iff] at h1
      obtain ⟨cs, h2, h3⟩ := h1
      rw [cellsSet] at h2
      obtain ⟨_, h4, h5⟩ := World.cells?_some h2
      obtain ⟨N, hN, h6, _⟩ := trod_set h4 h3
      refine ⟨N, hN, fun j hj => ?_⟩
      rw [← h6 j hj, ← h5 j hj, add_plain, add_plain]
    have places : ∀ y ∈ elems ++ rest, y.2 = [] := fun y hy => by
      have : ∃ i cs, (W.cells? 0 ((⟨b, o, none⟩ : Addr).add (i * 4)) 4) = some cs ∧ DataW.trod enc Tryd.prog W 0 (fun _ => true) true n 25 cs = some y := by
        rcases List.mem_append.1 hy with h | h
        · obtain ⟨i, hi, rfl⟩ := List.getElem_of_mem h
          have h1 := hel i (by omega)
          rw [List.getElem?_eq_getElem hi, Option.bind_eq_some_iff] at h1
          obtain ⟨cs, h2, h3⟩ := h1
          rw [cellsSet] at h2
          exact ⟨i, cs, h2, h3⟩
        · obtain ⟨i, hi, rfl⟩ := List.getElem_of_mem h
          obtain ⟨h0, h1⟩ := hsp rfl
          have h1 := h1 i (by omega)
          rw [List.getElem?_eq_getElem hi, Option.bind_eq_some_iff] at h1
          obtain ⟨cs, h2, h3⟩ := h1
          rw [cellsSet] at h2
          exact ⟨len + i, cs, h2, h3⟩
      obtain ⟨i, cs, h2, h3⟩ := this
      obtain ⟨_, h4, _⟩ := World.cells?_some h2
      obtain ⟨_, _, _, h⟩ := trod_set h4 h3
      exact h
    obtain ⟨ls, hll, hls⟩ := list_of key
    subst hll
    refine ⟨some ⟨b, o, none⟩, cap, ls, rfl, hl, hm, fun N hN => ?_, ?_, fun ad e => by cases e; exact hblk, fun W' hB => ?_⟩
    · obtain ⟨i, hi⟩ := List.getElem?_of_mem hN
      exact (hls i N hi).1
    · by_cases he : ls = []
      · exact .inl he
      · exact .inr ⟨b, o, rfl, fun i N hi j hj => (hls i N hi).2 j hj⟩
    · refine Below.trod (by kernel_rfl) (by kernel_rfl) (by decide +kernel) hd' hB (fun x hx => ?_)
      rcases List.mem_append.1 hx with h | h
      · obtain ⟨i, _, rfl⟩ := MemPlace.mem_row.1 h
        exact hblk
      · obtain ⟨y, hy, hyx⟩ := List.mem_flatMap.1 h
        rw [places y hy] at hyx
        cases hyx
end Go.Proofs.YtjifajigigflkaaDoor
namespace Go.Proofs.YtjifajigigflkaaDoor
set_option linter.unusedSimpArgs false
set_option linter.unusedVariables false
open Go Go.RowKit Go.ChangeShapes Go.WideShapes Go.ChangeAt

set_option maxRecDepth 100000 in
theorem bitsCovers_lifted (os : Os) (started : os.Started) (H : Type) (enc : TypeId × Value → H) :
    ReturnsInHanded {} Tryd.checked os 7 .any (fun w args => (Rows.bitsCoversSpec.pre enc Tryd.prog Tryd.f7 [] false w args ∧ laidMetH Tryd.prog laidS w) ∧ sizedMet enc Tryd.prog Tryd.f7 (OpenSpec.ofChange Rows.bitsCoversSpec) false w args)
      (Rows.bitsCoversSpec.post enc Tryd.prog Tryd.f7 false true false false) := by
  refine lifted_of started (by kernel_rfl) Tryd.func7
    (ChangeSpec.witness_shaped (enc := enc) (C := Tryd.checked) (os := os) (X := fun w _ => laidMetH Tryd.prog laidS w) false (World.laidAll Tryd.prog os laidS) #[.agg #[.int .u64 0, .int .u64 0, .int .u64 0, .int .u64 0], .slice none 0 0] 8 (World.laidAll_os _ _ _)
      (World.shaped_of_ZipB (by kernel_rfl) (by kernel_rfl)) (by kernel_rfl) (by kernel_rfl) (by kernel_rfl) (laid_met os _)) ?_
  intro W base args ds gs before hg hval0 hW _
  have hval : ∀ (j : Nat) t v, Tryd.f7.params[j]? = some t → args[j]? = some v → Value.okWide Tryd.prog W .any base t v := hval0
  have hW' := hW
  obtain ⟨p, q, hA0, hV, rfl, _, _⟩ := hW
  have hA : DataW.TrodAll enc Tryd.prog W 0 (fun _ => true) true Tryd.f7.params.toList args.toList ds p := hA0
  rw [Tryd.params7] at hA hval
  obtain ⟨v0, v1, d0, d1, p0, p1, rfl, rfl, rfl, h0, h1⟩ := trodAll_two hA
  obtain ⟨rfl, rfl⟩ := trodVars_none hV
  obtain ⟨x0, b0, rfl, rfl, rfl⟩ := open_set (hval 0 _ v0 rfl rfl) h0
  obtain ⟨a1, cap1, zs1, rfl, lc1, lm1, hls1, hsc1, ho1, back1⟩ := open_sl (hval 1 _ v1 rfl rfl) h1
  simp only [List.append_nil] at hW'
  refine (bitsCovers_any sane_any x0 a1 cap1 zs1 W hg b0 (by unfold maxLen at lm1; omega) hls1 hsc1 ho1).mono fun e W' ⟨he, hb⟩ => ?_
  subst he
  exact ⟨_, rfl, _, _, _, [], _, [], hW', trodAll_mk1 (shut_bool Tryd.underlying4 _), trodAll_mk2 (shut_set x0) (back1 _ hb), rfl, hb.frame _, fun h => by cases h⟩
theorem bitsCovers_holds : Rows.BitsCoversSaid :=
  OpenClaim.holds_of_wide 7 Tryd.f7 rfl rfl rfl rfl rfl rfl rfl ⟨rfl, rfl, rfl, rfl, rfl⟩ rfl rfl rfl rfl rfl (by kernel_rfl) Tryd.func7 (by kernel_rfl)
    (of_decide_eq_true (by kernel_rfl)) (by unfold Func.isWrapper; first | (rw [if_pos (by decide +kernel)]; kernel_rfl) | (rw [if_neg (by decide +kernel)]; exact ⟨rfl, rfl⟩))
    (fun os started H enc _ => bitsCovers_lifted os started H enc)
theorem bitsCovers_card : Rows.BitsCoversCardSaid :=
  Claim7.holds_tied_plain_at .later [] [.data, .data, .data, .sentinel, .sentinel] true Rows.bitsCoversCard.stood.harness true bitsCovers_holds (fun _ h => by cases h) (by kernel_rfl) (fun _ h => by cases h) bitsCovers_row_tie rfl ⟨rfl, rfl⟩ (by kernel_rfl) rfl
    (fun f fn hf hfn => by
      obtain rfl : f = 7 := Option.some.inj ((show Tryd.prog.funcNamed "bonehouse/bonehouselaw01.BitsCovers" = some 7 by kernel_rfl).symm.trans hf) |>.symm
      obtain rfl : fn = Tryd.f7 := (Option.some.inj (Tryd.func7.symm.trans hfn)).symm
      exact ⟨by kernel_rfl, fun j t ht => by
        rw [Tryd.params7] at ht
        have hm : t ∈ [25, 54] := by simpa using Array.mem_of_getElem? ht
        have hall : ([25, 54].all fun u => !Tryd.prog.wantsStandIn u) = true := by kernel_rfl
        exact (show Tryd.prog.wantsStandIn t = false by simpa using List.all_eq_true.1 hall t hm)⟩)
    (by kernel_rfl)
#print axioms bitsCovers_card
end Go.Proofs.YtjifajigigflkaaDoor
