/- Texts: Print and Parse. -/
import Derived.Test.YtjifajigigflkaaDoorQ8
import Derived.Test.YtjifajigigflkaaDoorShelf2
import Derived.Lib.AppendIntMem
import Derived.Lib.AtoiErrMem
import Derived.WalkMore
import Derived.Deep.LoopGhost
import Derived.Lib.ItoaLen
/- Package bits: parseNumber. -/
namespace Go.Proofs.YtjifajigigflkaaDoor
set_option linter.unusedSimpArgs false
set_option linter.unusedVariables false
open Go Go.RowKit Go.Shelf

/-- The number from 0 to 255 with a text. -/
def numO (t : List UInt8) : Option Nat := match Lib.atoiAll t with
  | .ok v => if 0 ≤ v ∧ v ≤ 255 ∧ Lib.itoa v = t then some v.toNat else none
  | _ => none
def NumPost (s : ByteArray) (w : World) (e : Ending) (w' : World) : Prop := Below w.heap.size w w' ∧ ∃ n : Int, e = .returned (.tuple #[.int .i64 n, .bool (numO s.data.toList).isSome]) ∧ ∀ k, numO s.data.toList = some k → n = k
theorem itoa_any (n : Int) (w : World) (hg : Gl w) (h0 : 0 ≤ n) (h1 : n ≤ 255) :
    Calls Tryd.prog 83 #[.int .i64 n] w fun e w' => e = .returned (.string ⟨(Lib.itoa n).toArray⟩) ∧ Below w.heap.size w w' :=
  (Tryd.strconv_Itoa n (by omega) (by omega) w hg.pow).mono fun e w' ⟨he, k, os, hw⟩ => ⟨he, by rw [hw]; exact Lib.below_grow _ w (Nat.le_refl _) k os⟩
set_option maxRecDepth 100000 in
set_option maxHeartbeats 1000000 in
theorem parseNumber_any (s : ByteArray) (w : World) (hg : Gl w) (hs : s.size ≤ 281474976710656) :
    Calls Tryd.prog 96 #[.string s] w (NumPost s w) := by
  have HG := Lib.hid hg
  have hsyn := hg.syn
  have hrng := hg.rng
  clear hg
  cases ha : Lib.atoiAll s.data.toList with
  | range =>
    have HN : Hid (numO s.data.toList = none) := by unfold Hid numO; rw [ha]
    obtain ⟨ti, pi, hv⟩ := hrng
    obtain ⟨n, hn⟩ : ∃ n, n = Lib.atoiSat s.data.toList := ⟨_, rfl⟩
    have HC : Hid (Calls Tryd.prog 101 #[.string s] w fun e w' => ∃ N, e = .returned (.tuple #[.int .i64 n, .iface 131 (.pointer (some ⟨N, 0, none⟩))]) ∧ Below w.heap.size w w') := (Tryd.strconv_Atoi_range s hs ha _ w hv (.inr ⟨_, _, rfl⟩)).mono fun e w' ⟨N, h1, _, _, h2⟩ => ⟨N, by rw [hn]; exact h1, h2⟩
    clear ha hv hsyn hn
    go_enter Tryd.func96, Tryd.ntmps96
    go_wp2_with (go_at_call 101; refine HC.out.mono ?_; rintro e w2 ⟨N, rfl, hb⟩)
    exact bodyPost_ret (v := .tuple #[.int .i64 n, .bool false]) (by simp [results, Tryd.results96, go_sem]) rfl ⟨hb, n, by rw [HN.out]; rfl, fun k hk => by rw [HN.out] at hk; cases hk⟩
  | ok v =>
    have HC : Hid (Calls Tryd.prog 101 #[.string s] w fun e w' => e = .returned (.tuple #[.int .i64 v, .nilIface]) ∧ Below w.heap.size w w') := (Tryd.strconv_Atoi_ok s (by omega) v ha w).mono fun e w' ⟨h1, h2⟩ => ⟨h1, by rcases h2 with rfl | ⟨t, rfl⟩; exact Below.refl _ _; exact Lib.bytesWorld_below _ _ _⟩
    clear hsyn hrng
    by_cases hin : 0 ≤ v ∧ v ≤ 255
    · by_cases heq : Lib.itoa v = s.data.toList
      · have HN : Hid (numO s.data.toList = some v.toNat) := by unfold Hid numO; rw [ha]; simp only []; rw [if_pos ⟨hin.1, hin.2, heq⟩]
        have hs' : (⟨(Lib.itoa v).toArray⟩ : ByteArray) = s := by cases s; simp only [ByteArray.mk.injEq]; rw [heq]
        obtain ⟨h0, h1⟩ := hin
        have HS := Lib.hid hs'
        clear ha heq hs'
        go_enter Tryd.func96, Tryd.ntmps96
        go_wp2_with (first | (go_at_call 101; refine HC.out.mono ?_; rintro e w2 ⟨rfl, hb⟩) | (go_at_call 67; refine (isMember_yes v _ h0 h1).mono ?_; rintro e w' ⟨rfl, rfl⟩) | (go_at_call 83; refine (itoa_any v _ (HG.out.below hb) h0 h1).mono ?_; rintro e w3 ⟨rfl, hb3⟩; rw [HS.out]))
        exact bodyPost_ret (v := .tuple #[.int .i64 v, .bool true]) (by simp [results, Tryd.results96, go_sem]) rfl ⟨hb.trans (hb3.mono hb.size), v, by rw [HN.out]; rfl, fun k hk => by rw [HN.out] at hk; cases hk; omega⟩
      · have HN : Hid (numO s.data.toList = none) := by unfold Hid numO; rw [ha]; simp only []; rw [if_neg (fun h => heq h.2.2)]
        obtain ⟨r, hr⟩ : ∃ r : ByteArray, r = ⟨(Lib.itoa v).toArray⟩ := ⟨_, rfl⟩
        have hne : ¬ r = s := fun e => heq (by rw [← e, hr])
        have hne' : ¬ r.toList = s.toList := fun e => by
          rw [ByteArray.toList_eq, ByteArray.toList_eq] at e
          exact hne (by cases r; cases s; simp only [ByteArray.mk.injEq]; exact Array.toList_inj.1 e)
        obtain ⟨h0, h1⟩ := hin
        have HI : Hid (∀ w, Gl w → Calls Tryd.prog 83 #[.int .i64 v] w fun e w' => e = .returned (.string r) ∧ Below w.heap.size w w') := fun w hg => by rw [hr]; exact itoa_any v w hg h0 h1
        clear ha heq hr
        go_enter Tryd.func96, Tryd.ntmps96
        go_wp2_with (first | (go_at_call 101; refine HC.out.mono ?_; rintro e w2 ⟨rfl, hb⟩) | (go_at_call 67; refine (isMember_yes v _ h0 h1).mono ?_; rintro e w' ⟨rfl, rfl⟩) | (go_at_call 83; refine (HI.out _ (HG.out.below hb)).mono ?_; rintro e w3 ⟨rfl, hb3⟩))
        exact bodyPost_ret (v := .tuple #[.int .i64 v, .bool false]) (by simp [results, Tryd.results96, go_sem, hne']) rfl ⟨hb.trans (hb3.mono hb.size), v, by rw [HN.out]; rfl, fun k hk => by rw [HN.out] at hk; cases hk⟩
    · have HN : Hid (numO s.data.toList = none) := by unfold Hid numO; rw [ha]; simp only []; rw [if_neg (fun h => hin ⟨h.1, h.2.1⟩)]
      have hout : v < 0 ∨ 255 < v := by omega
      clear ha hin
      go_enter Tryd.func96, Tryd.ntmps96
      go_wp2_with (first | (go_at_call 101; refine HC.out.mono ?_; rintro e w2 ⟨rfl, hb⟩) | (go_at_call 67; refine (isMember_no v _ hout).mono ?_; rintro e w' ⟨rfl, rfl⟩))
      exact bodyPost_ret (v := .tuple #[.int .i64 v, .bool false]) (by simp [results, Tryd.results96, go_sem]) rfl ⟨hb, v, by rw [HN.out]; rfl, fun k hk => by rw [HN.out] at hk; cases hk⟩
  | _ =>
    have HN : Hid (numO s.data.toList = none) := by unfold Hid numO; rw [ha]
    obtain ⟨ti, pi, hv⟩ := hsyn
    have HC : Hid (Calls Tryd.prog 101 #[.string s] w fun e w' => ∃ N, e = .returned (.tuple #[.int .i64 0, .iface 131 (.pointer (some ⟨N, 0, none⟩))]) ∧ Below w.heap.size w w') := (Tryd.strconv_Atoi_syntax s hs ha _ w hv (.inr ⟨_, _, rfl⟩)).mono fun e w' ⟨N, h1, _, _, h2⟩ => ⟨N, h1, h2⟩
    clear ha hv hrng
    go_enter Tryd.func96, Tryd.ntmps96
    go_wp2_with (go_at_call 101; refine HC.out.mono ?_; rintro e w2 ⟨N, rfl, hb⟩)
    exact bodyPost_ret (v := .tuple #[.int .i64 0, .bool false]) (by simp [results, Tryd.results96, go_sem]) rfl ⟨hb, 0, by rw [HN.out]; rfl, fun k hk => by rw [HN.out] at hk; cases hk⟩
end Go.Proofs.YtjifajigigflkaaDoor
/- Package bits: parseRun. -/
namespace Go.Proofs.YtjifajigigflkaaDoor
set_option linter.unusedSimpArgs false
set_option linter.unusedVariables false
open Go Go.RowKit Go.Shelf

/-- A text cut at a byte. -/
def cutAt (c : UInt8) (l : List UInt8) : List UInt8 × List UInt8 × Bool := Lib.cut l [c]
/-- The run with a text. -/
def runO (t : List UInt8) : Option (Nat × Nat) :=
  match numO (cutAt 45 t).1 with
  | none => none
  | some a => if (cutAt 45 t).2.2 = false then some (a, a) else match numO (cutAt 45 t).2.1 with
    | none => none
    | some b => if a < b then some (a, b) else none
theorem cut_any (s : ByteArray) (c : UInt8) (sep : ByteArray) (hc : sep.data.toList = [c]) (w : World) (hg : Gl w) (hs : s.size < 4294967281) :
    Calls Tryd.prog 85 #[.string s, .string sep] w fun e w' => e = .returned (.tuple #[.string ⟨(cutAt c s.data.toList).1.toArray⟩, .string ⟨(cutAt c s.data.toList).2.1.toArray⟩, .bool (cutAt c s.data.toList).2.2]) ∧ Below w.heap.size w w' := by
  obtain ⟨m, hm⟩ := hg.ml
  refine (Tryd.strings_Cut s sep m w hs hm).mono fun e w' ⟨he, n, hw⟩ => ⟨by rw [he, hc]; rfl, ?_⟩
  rw [hw]
  exact ⟨rfl, rfl, rfl, Nat.le_refl _, fun _ _ => rfl⟩
theorem index_le (l : List UInt8) (sep : List UInt8) : (Lib.cut l sep).1.length ≤ l.length ∧ (Lib.cut l sep).2.1.length ≤ l.length := by
  unfold Lib.cut
  split
  · simp; omega
  · simp
/-- A block of a span. -/
def spanA (a b : Int) : Array Value := #[.int .i64 a, .int .i64 b]
theorem Blk.put2 {w : World} {b : Nat} {cs : Array Value} {t : TypeId} (h : Blk w b cs t) (hs : cs.size = 2) (x y : Int) : Blk ((w.setCell ⟨b, 0, none⟩ (.int .i64 x)).setCell ⟨b, 1, none⟩ (.int .i64 y)) b (spanA x y) t := by
  have h1 := (h.set 0 (.int .i64 x)).set 1 (.int .i64 y)
  have : (cs.setIfInBounds 0 (.int .i64 x)).setIfInBounds 1 (.int .i64 y) = spanA x y := by
    obtain ⟨l⟩ := cs
    match l, hs with
    | [p, q], _ => rfl
  rw [this] at h1
  exact h1
theorem Blk.cells2 {w : World} {b : Nat} {x y : Int} {t : TypeId} (h : Blk w b (spanA x y) t) : w.cell? ⟨b, 0, none⟩ = some (.int .i64 x) ∧ w.cell? ⟨b, 1, none⟩ = some (.int .i64 y) ∧ ∀ i, w.frozen? ⟨b, i, none⟩ = false :=
  ⟨by rw [h.cell]; rfl, by rw [h.cell]; rfl, fun i => h.frozen i⟩
theorem below_put2 {B : Nat} {w w' : World} {b : Nat} (h : Below B w w') (hb : B ≤ b) (x y : Value) : Below B w ((w'.setCell ⟨b, 0, none⟩ x).setCell ⟨b, 1, none⟩ y) := (h.setCell (p := ⟨b, 0, none⟩) hb x).setCell (p := ⟨b, 1, none⟩) hb y
/-- What parseRun returns. -/
def RunPost (s : ByteArray) (w : World) (e : Ending) (w' : World) : Prop := Below w.heap.size w w' ∧ ∃ a b : Int, e = .returned (.tuple #[.agg #[.int .i64 a, .int .i64 b], .bool (runO s.data.toList).isSome]) ∧ ∀ x y, runO s.data.toList = some (x, y) → a = x ∧ b = y
set_option maxRecDepth 100000 in
set_option maxHeartbeats 2000000 in
theorem parseRun_any (s : ByteArray) (w : World) (hg : Gl w) (hs : s.size < 4294967281) :
    Calls Tryd.prog 86 #[.string s] w (RunPost s w) := by
  have HG := Lib.hid hg
  clear hg
  obtain ⟨p, hp⟩ : ∃ p, p = cutAt 45 s.data.toList := ⟨_, rfl⟩
  have hpl := index_le s.data.toList [45]
  have hp1 : p.1.length ≤ s.data.toList.length := by rw [hp]; exact hpl.1
  have hp2 : p.2.1.length ≤ s.data.toList.length := by rw [hp]; exact hpl.2
  have hsz : s.data.toList.length = s.size := by simp
  have HC : Hid (∀ (sep : ByteArray) (w : World), sep.data.toList = [45] → Gl w → Calls Tryd.prog 85 #[.string s, .string sep] w fun e w' => e = .returned (.tuple #[.string ⟨p.1.toArray⟩, .string ⟨p.2.1.toArray⟩, .bool p.2.2]) ∧ Below w.heap.size w w') := fun sep w hsep hg => by rw [hp]; exact cut_any s 45 sep hsep w hg hs
  have HP : Hid (runO s.data.toList = match numO p.1 with
    | none => none
    | some a => if p.2.2 = false then some (a, a) else match numO p.2.1 with
      | none => none
      | some b => if a < b then some (a, b) else none) := by rw [Hid, hp]; rfl
  have HN : Hid (∀ (l : List UInt8) (w : World), l.length ≤ 281474976710656 → Gl w → Calls Tryd.prog 96 #[.string ⟨l.toArray⟩] w fun e w' => Below w.heap.size w w' ∧ ∃ n : Int, e = .returned (.tuple #[.int .i64 n, .bool (numO l).isSome]) ∧ ∀ k, numO l = some k → n = k) := fun l w hl hg => parseNumber_any ⟨l.toArray⟩ w hg hl
  clear hp hpl
  obtain ⟨p1, p2, p3⟩ := p
  dsimp only at *
  cases h1 : numO p1 with
  | none =>
    have HR : Hid (runO s.data.toList = none) := by rw [Hid, HP.out, h1]
    have H1 : Hid ((numO p1).isSome = false) := by rw [Hid, h1]; rfl
    clear h1
    go_enter Tryd.func86, Tryd.ntmps86
    go_wp2_with (first | (go_at_call 85; refine Calls.named (fun V => Blk V w.heap.size (spanA 0 0) 86 ∧ Below w.heap.size w V) ⟨Blk.new _ _ _, below_new1 _ _⟩ ?_; rintro W1 ⟨hW1, hB1⟩; refine (HC.out _ _ rfl (HG.out.below hB1)).mono ?_; rintro e w2 ⟨rfl, hb2⟩; have HS2 := Lib.hid (hW1.below hb2 hW1.lt); have HB2 := Lib.hid (hB1.trans (hb2.mono hB1.size)); clear hb2 hW1 hB1) | (go_at_call 96; ((with_reducible refine (HN.out p1 _ (by omega) (HG.out.below HB2.out)).mono ?_)); rintro e w3 ⟨hb3, n, rfl, hn⟩; rw [H1.out]; have HS3 := Lib.hid (HS2.out.below hb3 HS2.out.lt); have HB3 := Lib.hid (HB2.out.trans (hb3.mono HB2.out.size)); have HN3 := Lib.hid hn; clear hb3 hn; obtain ⟨c0, c1, cf⟩ := HS3.out.cells2))
    refine named (fun U => Blk U w.heap.size (spanA n n) 86 ∧ Below w.heap.size w U) ⟨HS3.out.put2 rfl _ _, below_put2 HB3.out (Nat.le_refl _) _ _⟩ ?_
    rintro U ⟨hU, hbU⟩
    obtain ⟨q0, q1, qf⟩ := hU.cells2
    exact bodyPost_ret (v := .tuple #[.agg #[.int .i64 n, .int .i64 n], .bool false]) (by simp [results, Tryd.results86, go_sem, q0, q1] <;> assumption) rfl ⟨hbU, n, n, by rw [HR.out]; rfl, fun x y hk => by rw [HR.out] at hk; cases hk⟩
  | some a =>
    have H1 : Hid ((numO p1).isSome = true) := by rw [Hid, h1]; rfl
    have HA := Lib.hid h1
    cases p3 with
    | false =>
      have HR : Hid (runO s.data.toList = some (a, a)) := by rw [Hid, HP.out, h1]; rfl
      clear h1
      go_enter Tryd.func86, Tryd.ntmps86
      go_wp2_with (first | (go_at_call 85; refine Calls.named (fun V => Blk V w.heap.size (spanA 0 0) 86 ∧ Below w.heap.size w V) ⟨Blk.new _ _ _, below_new1 _ _⟩ ?_; rintro W1 ⟨hW1, hB1⟩; refine (HC.out _ _ rfl (HG.out.below hB1)).mono ?_; rintro e w2 ⟨rfl, hb2⟩; have HS2 := Lib.hid (hW1.below hb2 hW1.lt); have HB2 := Lib.hid (hB1.trans (hb2.mono hB1.size)); clear hb2 hW1 hB1) | (go_at_call 96; ((with_reducible refine (HN.out p1 _ (by omega) (HG.out.below HB2.out)).mono ?_)); rintro e w3 ⟨hb3, n, rfl, hn⟩; rw [H1.out]; have HS3 := Lib.hid (HS2.out.below hb3 HS2.out.lt); have HB3 := Lib.hid (HB2.out.trans (hb3.mono HB2.out.size)); have HN3 := Lib.hid hn; clear hb3 hn; obtain ⟨c0, c1, cf⟩ := HS3.out.cells2))
      refine named (fun U => Blk U w.heap.size (spanA n n) 86 ∧ Below w.heap.size w U) ⟨HS3.out.put2 rfl _ _, below_put2 HB3.out (Nat.le_refl _) _ _⟩ ?_
      rintro U ⟨hU, hbU⟩
      obtain ⟨q0, q1, qf⟩ := hU.cells2
      exact bodyPost_ret (v := .tuple #[.agg #[.int .i64 n, .int .i64 n], .bool true]) (by simp [results, Tryd.results86, go_sem, q0, q1] <;> assumption) rfl ⟨hbU, n, n, by rw [HR.out]; rfl, fun x y hk => by rw [HR.out] at hk; cases hk; exact ⟨HN3.out _ HA.out, HN3.out _ HA.out⟩⟩
    | true =>
      cases h2 : numO p2 with
      | none =>
        have HR : Hid (runO s.data.toList = none) := by rw [Hid, HP.out, h1, h2]; rfl
        have H2 : Hid ((numO p2).isSome = false) := by rw [Hid, h2]; rfl
        clear h1 h2
        go_enter Tryd.func86, Tryd.ntmps86
        go_wp2_with (first | (go_at_call 85; refine Calls.named (fun V => Blk V w.heap.size (spanA 0 0) 86 ∧ Below w.heap.size w V) ⟨Blk.new _ _ _, below_new1 _ _⟩ ?_; rintro W1 ⟨hW1, hB1⟩; refine (HC.out _ _ rfl (HG.out.below hB1)).mono ?_; rintro e w2 ⟨rfl, hb2⟩; have HS2 := Lib.hid (hW1.below hb2 hW1.lt); have HB2 := Lib.hid (hB1.trans (hb2.mono hB1.size)); clear hb2 hW1 hB1) | (go_at_call 96; ((with_reducible refine (HN.out p1 _ (by omega) (HG.out.below HB2.out)).mono ?_)); rintro e w3 ⟨hb3, n, rfl, hn⟩; rw [H1.out]; have HS3 := Lib.hid (HS2.out.below hb3 HS2.out.lt); have HB3 := Lib.hid (HB2.out.trans (hb3.mono HB2.out.size)); have HN3 := Lib.hid hn; clear hb3 hn; obtain ⟨c0, c1, cf⟩ := HS3.out.cells2) | (go_at_call 96; ((with_reducible refine (HN.out p2 _ (by omega) (HG.out.below HB3.out)).mono ?_)); rintro e w4 ⟨hb4, n2, rfl, hn2⟩; rw [H2.out]; have HS4 := Lib.hid (HS3.out.below hb4 HS3.out.lt); have HB4 := Lib.hid (HB3.out.trans (hb4.mono HB3.out.size)); have HN4 := Lib.hid hn2; clear hb4 hn2 c0 c1 cf; obtain ⟨c0, c1, cf⟩ := HS4.out.cells2))
        refine named (fun U => Blk U w.heap.size (spanA n n2) 86 ∧ Below w.heap.size w U) ⟨HS4.out.put2 rfl _ _, below_put2 HB4.out (Nat.le_refl _) _ _⟩ ?_
        rintro U ⟨hU, hbU⟩
        obtain ⟨q0, q1, qf⟩ := hU.cells2
        exact bodyPost_ret (v := .tuple #[.agg #[.int .i64 n, .int .i64 n2], .bool false]) (by simp [results, Tryd.results86, go_sem, q0, q1] <;> assumption) rfl ⟨hbU, n, n2, by rw [HR.out]; rfl, fun x y hk => by rw [HR.out] at hk; cases hk⟩
      | some b =>
        have H2 : Hid ((numO p2).isSome = true) := by rw [Hid, h2]; rfl
        have HBB := Lib.hid h2
        by_cases hab : a < b
        · have HR : Hid (runO s.data.toList = some (a, b)) := by rw [Hid, HP.out, h1, h2]; simp [hab]
          clear h1 h2
          go_enter Tryd.func86, Tryd.ntmps86
          go_wp2_with (first | (go_at_call 85; refine Calls.named (fun V => Blk V w.heap.size (spanA 0 0) 86 ∧ Below w.heap.size w V) ⟨Blk.new _ _ _, below_new1 _ _⟩ ?_; rintro W1 ⟨hW1, hB1⟩; refine (HC.out _ _ rfl (HG.out.below hB1)).mono ?_; rintro e w2 ⟨rfl, hb2⟩; have HS2 := Lib.hid (hW1.below hb2 hW1.lt); have HB2 := Lib.hid (hB1.trans (hb2.mono hB1.size)); clear hb2 hW1 hB1) | (go_at_call 96; ((with_reducible refine (HN.out p1 _ (by omega) (HG.out.below HB2.out)).mono ?_)); rintro e w3 ⟨hb3, n, rfl, hn⟩; rw [H1.out]; have HS3 := Lib.hid (HS2.out.below hb3 HS2.out.lt); have HB3 := Lib.hid (HB2.out.trans (hb3.mono HB2.out.size)); have HN3 := Lib.hid hn; clear hb3 hn; obtain ⟨c0, c1, cf⟩ := HS3.out.cells2) | (go_at_call 96; ((with_reducible refine (HN.out p2 _ (by omega) (HG.out.below HB3.out)).mono ?_)); rintro e w4 ⟨hb4, n2, rfl, hn2⟩; rw [H2.out]; have HS4 := Lib.hid (HS3.out.below hb4 HS3.out.lt); have HB4 := Lib.hid (HB3.out.trans (hb4.mono HB3.out.size)); have HN4 := Lib.hid hn2; have hlt : n < n2 := (by rw [HN3.out a HA.out, hn2 b HBB.out]; omega); clear hb4 hn2 c0 c1 cf; obtain ⟨c0, c1, cf⟩ := HS4.out.cells2))
          refine named (fun U => Blk U w.heap.size (spanA n n2) 86 ∧ Below w.heap.size w U) ⟨HS4.out.put2 rfl _ _, below_put2 HB4.out (Nat.le_refl _) _ _⟩ ?_
          rintro U ⟨hU, hbU⟩
          obtain ⟨q0, q1, qf⟩ := hU.cells2
          exact bodyPost_ret (v := .tuple #[.agg #[.int .i64 n, .int .i64 n2], .bool true]) (by simp [results, Tryd.results86, go_sem, q0, q1] <;> assumption) rfl ⟨hbU, n, n2, by rw [HR.out]; rfl, fun x y hk => by rw [HR.out] at hk; cases hk; exact ⟨HN3.out _ HA.out, HN4.out _ HBB.out⟩⟩
        · have HR : Hid (runO s.data.toList = none) := by rw [Hid, HP.out, h1, h2]; simp [hab]
          clear h1 h2
          go_enter Tryd.func86, Tryd.ntmps86
          go_wp2_with (first | (go_at_call 85; refine Calls.named (fun V => Blk V w.heap.size (spanA 0 0) 86 ∧ Below w.heap.size w V) ⟨Blk.new _ _ _, below_new1 _ _⟩ ?_; rintro W1 ⟨hW1, hB1⟩; refine (HC.out _ _ rfl (HG.out.below hB1)).mono ?_; rintro e w2 ⟨rfl, hb2⟩; have HS2 := Lib.hid (hW1.below hb2 hW1.lt); have HB2 := Lib.hid (hB1.trans (hb2.mono hB1.size)); clear hb2 hW1 hB1) | (go_at_call 96; ((with_reducible refine (HN.out p1 _ (by omega) (HG.out.below HB2.out)).mono ?_)); rintro e w3 ⟨hb3, n, rfl, hn⟩; rw [H1.out]; have HS3 := Lib.hid (HS2.out.below hb3 HS2.out.lt); have HB3 := Lib.hid (HB2.out.trans (hb3.mono HB2.out.size)); have HN3 := Lib.hid hn; clear hb3 hn; obtain ⟨c0, c1, cf⟩ := HS3.out.cells2) | (go_at_call 96; ((with_reducible refine (HN.out p2 _ (by omega) (HG.out.below HB3.out)).mono ?_)); rintro e w4 ⟨hb4, n2, rfl, hn2⟩; rw [H2.out]; have HS4 := Lib.hid (HS3.out.below hb4 HS3.out.lt); have HB4 := Lib.hid (HB3.out.trans (hb4.mono HB3.out.size)); have HN4 := Lib.hid hn2; have hlt : ¬ n < n2 := (by rw [HN3.out a HA.out, hn2 b HBB.out]; omega); clear hb4 hn2 c0 c1 cf; obtain ⟨c0, c1, cf⟩ := HS4.out.cells2))
          refine named (fun U => Blk U w.heap.size (spanA n n2) 86 ∧ Below w.heap.size w U) ⟨HS4.out.put2 rfl _ _, below_put2 HB4.out (Nat.le_refl _) _ _⟩ ?_
          rintro U ⟨hU, hbU⟩
          obtain ⟨q0, q1, qf⟩ := hU.cells2
          exact bodyPost_ret (v := .tuple #[.agg #[.int .i64 n, .int .i64 n2], .bool false]) (by simp [results, Tryd.results86, go_sem, q0, q1] <;> assumption) rfl ⟨hbU, n, n2, by rw [HR.out]; rfl, fun x y hk => by rw [HR.out] at hk; cases hk⟩
end Go.Proofs.YtjifajigigflkaaDoor
/- Package bits: Parse. -/
namespace Go.Proofs.YtjifajigigflkaaDoor
set_option linter.unusedSimpArgs false
set_option linter.unusedVariables false
open Go Go.RowKit Go.Shelf

theorem cut_nil (c : UInt8) : cutAt c [] = ([], [], false) := by
  unfold cutAt Lib.cut
  have : ¬ (0 ≤ Lib.index [] [c]) := by simp [Lib.index]
  rw [if_neg this]
theorem cut_less {c : UInt8} {l : List UInt8} (h : (cutAt c l).2.2 = true) : (cutAt c l).2.1.length < l.length := by
  cases l with
  | nil => rw [cut_nil] at h; cases h
  | cons a l =>
    unfold cutAt Lib.cut at *
    split at h
    · rename_i hi; rw [if_pos hi]; simp; omega
    · cases h
theorem runO_le {t : List UInt8} {a b : Nat} (h : runO t = some (a, b)) : a ≤ b ∧ b < 256 := by
  have hn : ∀ {l : List UInt8} {k : Nat}, numO l = some k → k < 256 := fun {l k} hk => by
    unfold numO at hk
    split at hk
    · split at hk
      · rename_i hv; cases hk; omega
      · cases hk
    · cases hk
  unfold runO at h
  cases h1 : numO (cutAt 45 t).1 with
  | none => rw [h1] at h; cases h
  | some x =>
    rw [h1] at h
    simp only [] at h
    split at h
    · cases h; exact ⟨Nat.le_refl _, hn h1⟩
    · cases h2 : numO (cutAt 45 t).2.1 with
      | none => rw [h2] at h; cases h
      | some y =>
        rw [h2] at h
        simp only [] at h
        split at h
        · cases h; exact ⟨by omega, hn h2⟩
        · cases h
/-- What is read of a text, least the least number that may come. -/
def parseL : Nat → List UInt8 → Nat → Nat → Option Nat
  | 0, _, _, _ => none
  | f + 1, t, least, N => match runO (cutAt 44 t).1 with
    | none => none
    | some (a, b) => if a < least then none else if (cutAt 44 t).2.2 = true then parseL f (cutAt 44 t).2.1 (b + 2) (ins N a (b - a + 1)) else some (ins N a (b - a + 1))
def parseO (t : List UInt8) : Option Nat := if t = [45] then some 0 else parseL (t.length + 1) t 0 0
def parseV : Option Nat → Value
  | some N => .tuple #[setV N, .int .i64 0]
  | none => .tuple #[setV 0, .int .i64 3]
/-- How far Parse has to go. -/
def strLen : Value → Nat
  | .string s => s.size
  | _ => 0
def leftP (t m : Value) : Nat := match m with
  | .bool true => strLen t + 1
  | _ => 0

/-- What is still to be read. -/
def ParseAt (all : List UInt8) (r : List UInt8) (least N : Nat) (m : Bool) : Prop := if m then ∃ f, r.length < f ∧ parseO all = parseL f r least N else parseO all = some N
theorem ParseAt.bad {all r : List UInt8} {least N : Nat} (h : ParseAt all r least N true) (hr : ∀ a b, runO (cutAt 44 r).1 = some (a, b) → a < least) : parseO all = none := by
  obtain ⟨f, hf, h⟩ := h
  rw [h]
  cases f with
  | zero => omega
  | succ f =>
    simp only [parseL]
    cases hc : runO (cutAt 44 r).1 with
    | none => rfl
    | some p => obtain ⟨a, b⟩ := p; simp only []; rw [if_pos (hr a b hc)]
theorem ParseAt.good {all r : List UInt8} {least N a b : Nat} (h : ParseAt all r least N true) (hr : runO (cutAt 44 r).1 = some (a, b)) (hl : ¬ a < least) : ParseAt all (cutAt 44 r).2.1 (b + 2) (ins N a (b - a + 1)) (cutAt 44 r).2.2 := by
  obtain ⟨f, hf, h⟩ := h
  cases f with
  | zero => omega
  | succ f =>
    simp only [parseL, hr] at h
    rw [if_neg hl] at h
    unfold ParseAt
    cases hm : (cutAt 44 r).2.2 with
    | true => rw [hm, if_pos rfl] at h; exact ⟨f, by have := cut_less hm; omega, h⟩
    | false => rw [hm] at h; exact h

set_option maxRecDepth 100000 in
set_option maxHeartbeats 1000000 in
theorem parse_any (s : ByteArray) (w : World) (hg : Gl w) (hs : s.size < 4294967281) :
    Calls Tryd.prog 58 #[.string s] w fun e w' => e = .returned (parseV (parseO s.data.toList)) ∧ Below w.heap.size w w' := by
  have HG := Lib.hid hg
  clear hg
  by_cases hd : s.data.toList = [45]
  · have HR : Hid (parseO s.data.toList = some 0) := by unfold Hid parseO; rw [if_pos hd]
    have hd' : (s.toList == [45]) = true := by rw [ByteArray.toList_eq]; simpa using hd
    clear hd
    go_enter Tryd.func58, Tryd.ntmps58
    go_wp2_with fail
    refine named (fun U => Blk U w.heap.size (setA 0) 25 ∧ Below w.heap.size w U) ⟨Blk.newS _ _, below_new1 _ _⟩ ?_
    rintro U ⟨hU, hbU⟩
    obtain ⟨q0, q1, q2, q3, _⟩ := hU.set4
    exact bodyPost_ret (v := .tuple #[setV 0, .int .i64 0]) (by simp [results, Tryd.results58, go_sem, q0, q1, q2, q3, setV]) rfl ⟨by rw [HR.out]; rfl, hbU⟩
  · have HR : Hid (parseO s.data.toList = parseL (s.data.toList.length + 1) s.data.toList 0 0) := by unfold Hid parseO; rw [if_neg hd]
    have hd' : (s.toList == [45]) = false := by rw [ByteArray.toList_eq]; simpa using hd
    clear hd
    go_enter Tryd.func58, Tryd.ntmps58
    go_wp2_with fail
    go_loopw [0, 5, 6] (fun t0 t5 t6 wr => ∃ (r : List UInt8) (least N : Nat) (m : Bool), t0 = .string ⟨r.toArray⟩ ∧ t5 = .int .i64 least ∧ t6 = .bool m ∧ r.length ≤ s.size ∧ least ≤ 300 ∧ ParseAt s.data.toList r least N m ∧ Blk wr w.heap.size (setA 0) 25 ∧ Blk wr (w.heap.size + 1) (setA N) 25 ∧ Below w.heap.size w wr) (fun t0 t5 t6 _ => leftP t0 t6)
    case atStart => exact ⟨s.data.toList, 0, 0, true, by cases s; rfl, rfl, rfl, by simp, by omega, ⟨_, Nat.lt_succ_self _, HR.out⟩, (Blk.newS _ _).alloc _, Blk.newS1 _ _ _, below_new2 _ _ _⟩
    case round =>
      obtain ⟨r, least, N, m, rfl, rfl, rfl, hrl, hle, hat, hA, hB, hW⟩ := hrel
      have HA := Lib.hid hA
      have HB := Lib.hid hB
      have HW := Lib.hid hW
      have HP := Lib.hid hat
      clear hat hA hB hW HR hd'
      cases m with
      | false =>
        obtain ⟨b0, b1, b2, b3, bf⟩ := HB.out.set4
        obtain ⟨a0, a1, a2, a3, af⟩ := HA.out.set4
        go_wp2_with fail
        refine named (fun U => Blk U w.heap.size (setA N) 25 ∧ Below w.heap.size w U) ⟨HA.out.put4 rfl _ _ _ _, below_put4 HW.out (Nat.le_refl _) _ _ _ _⟩ ?_
        rintro U ⟨hU, hbU⟩
        obtain ⟨q0, q1, q2, q3, _⟩ := hU.set4
        exact bodyPost_ret (v := .tuple #[setV N, .int .i64 0]) (by simp [results, Tryd.results58, go_sem, q0, q1, q2, q3, setV]) rfl ⟨by rw [show parseO s.data.toList = some N from HP.out]; rfl, hbU⟩
      | true =>
        obtain ⟨p, hp⟩ : ∃ p, p = cutAt 44 r := ⟨_, rfl⟩
        have hcl := index_le r [44]
        have hc1 : p.1.length ≤ r.length := by rw [hp]; exact hcl.1
        have hc2 : p.2.1.length ≤ r.length := by rw [hp]; exact hcl.2
        have hc3 : p.2.2 = true → p.2.1.length < r.length := fun h => by rw [hp] at h ⊢; exact cut_less h
        have HC : Hid (∀ w, Gl w → Calls Tryd.prog 85 #[.string ⟨r.toArray⟩, .string ⟨#[44]⟩] w fun e w' => e = .returned (.tuple #[.string ⟨p.1.toArray⟩, .string ⟨p.2.1.toArray⟩, .bool p.2.2]) ∧ Below w.heap.size w w') := fun w hg => by
          rw [hp]; exact cut_any ⟨r.toArray⟩ 44 ⟨#[44]⟩ rfl w hg (by show r.toArray.size < _; simp; omega)
        have HR0 : Hid (∀ w, Gl w → Calls Tryd.prog 86 #[.string ⟨p.1.toArray⟩] w fun e w' => Below w.heap.size w w' ∧ ∃ x y : Int, e = .returned (.tuple #[.agg #[.int .i64 x, .int .i64 y], .bool (runO p.1).isSome]) ∧ ∀ a b, runO p.1 = some (a, b) → x = a ∧ y = b) := fun w hg => parseRun_any ⟨p.1.toArray⟩ w hg (by show p.1.toArray.size < _; simp; omega)
        have HGOOD : Hid (∀ a b, runO p.1 = some (a, b) → ¬ a < least → ParseAt s.data.toList p.2.1 (b + 2) (ins N a (b - a + 1)) p.2.2) := fun a b h h' => by rw [hp] at h ⊢; exact ParseAt.good HP.out h h'
        have HBAD0 : Hid ((∀ a b, runO p.1 = some (a, b) → a < least) → parseO s.data.toList = none) := fun h => ParseAt.bad HP.out (by rw [← hp]; exact h)
        clear hp hcl
        obtain ⟨p1, p2, p3⟩ := p
        dsimp only at *
        have HC3 := Lib.hid hc3
        clear hc3
        cases hru : runO p1 with
        | none =>
          have HBAD : Hid (parseO s.data.toList = none) := HBAD0.out (by rw [hru]; intro a b h; cases h)
          have HRUN : Hid (∀ w, Gl w → Calls Tryd.prog 86 #[.string ⟨p1.toArray⟩] w fun e w' => Below w.heap.size w w' ∧ ∃ x y : Int, e = .returned (.tuple #[.agg #[.int .i64 x, .int .i64 y], .bool false])) := fun w hg => (HR0.out w hg).mono fun e w' ⟨h1, x, y, h2, _⟩ => ⟨h1, x, y, by rw [h2, hru]; rfl⟩
          clear hru
          go_wp2_with (first | (go_at_call 85; ((with_reducible refine (HC.out _ (HG.out.below HW.out)).mono ?_)); rintro e w2 ⟨rfl, hb2⟩; have HA2 := Lib.hid (HA.out.below hb2 HA.out.lt); have HB2 := Lib.hid (HB.out.below hb2 HB.out.lt); have HW2 := Lib.hid (HW.out.trans (hb2.mono HW.out.size)); clear hb2) | (go_at_call 86; ((with_reducible refine (HRUN.out _ (HG.out.below HW2.out)).mono ?_)); rintro e w3 ⟨hb3, x, y, rfl⟩; have HA3 := Lib.hid (HA2.out.below hb3 HA2.out.lt); have HB3 := Lib.hid (HB2.out.below hb3 HB2.out.lt); have HW3 := Lib.hid (HW2.out.trans (hb3.mono HW2.out.size)); have hla := HA3.out.lt; have hlb := HB3.out.lt; obtain ⟨a0, a1, a2, a3, af⟩ := HA3.out.set4; obtain ⟨b0, b1, b2, b3, bf⟩ := HB3.out.set4; clear hb3))
          refine named (fun U => Blk U w.heap.size (setA 0) 25 ∧ Below w.heap.size w U) ⟨?_, ?_⟩ ?_
          · rw [setA_zero]; exact (HA3.out.put4 rfl _ _ _ _).alloc _
          · exact (below_put4 HW3.out (Nat.le_refl _) _ _ _ _).alloc (below_put4 HW3.out (Nat.le_refl _) _ _ _ _).size _
          rintro U ⟨hU, hbU⟩
          obtain ⟨q0, q1, q2, q3, _⟩ := hU.set4
          exact bodyPost_ret (v := .tuple #[setV 0, .int .i64 3]) (by simp [results, Tryd.results58, go_sem, q0, q1, q2, q3, setV]) rfl ⟨by rw [HBAD.out]; rfl, hbU⟩
        | some q =>
          obtain ⟨a, b⟩ := q
          have hab := runO_le hru
          have HRUN : Hid (∀ w, Gl w → Calls Tryd.prog 86 #[.string ⟨p1.toArray⟩] w fun e w' => Below w.heap.size w w' ∧ e = .returned (.tuple #[.agg #[.int .i64 (a : Int), .int .i64 (b : Int)], .bool true])) := fun w hg => (HR0.out w hg).mono fun e w' ⟨h1, x, y, h2, h3⟩ => ⟨h1, by obtain ⟨e1, e2⟩ := h3 a b hru; rw [h2, hru, e1, e2]; rfl⟩
          by_cases hal : a < least
          · have HBAD : Hid (parseO s.data.toList = none) := HBAD0.out (by rw [hru]; intro a' b' h; cases h; exact hal)
            clear hru
            go_wp2_with (first | (go_at_call 85; ((with_reducible refine (HC.out _ (HG.out.below HW.out)).mono ?_)); rintro e w2 ⟨rfl, hb2⟩; have HA2 := Lib.hid (HA.out.below hb2 HA.out.lt); have HB2 := Lib.hid (HB.out.below hb2 HB.out.lt); have HW2 := Lib.hid (HW.out.trans (hb2.mono HW.out.size)); clear hb2) | (go_at_call 86; ((with_reducible refine (HRUN.out _ (HG.out.below HW2.out)).mono ?_)); rintro e w3 ⟨hb3, rfl⟩; have HA3 := Lib.hid (HA2.out.below hb3 HA2.out.lt); have HB3 := Lib.hid (HB2.out.below hb3 HB2.out.lt); have HW3 := Lib.hid (HW2.out.trans (hb3.mono HW2.out.size)); have hla := HA3.out.lt; have hlb := HB3.out.lt; obtain ⟨a0, a1, a2, a3, af⟩ := HA3.out.set4; obtain ⟨b0, b1, b2, b3, bf⟩ := HB3.out.set4; clear hb3))
            refine named (fun U => Blk U w.heap.size (setA 0) 25 ∧ Below w.heap.size w U) ⟨?_, ?_⟩ ?_
            · rw [setA_zero]; exact (HA3.out.put4 rfl _ _ _ _).alloc _
            · exact (below_put4 HW3.out (Nat.le_refl _) _ _ _ _).alloc (below_put4 HW3.out (Nat.le_refl _) _ _ _ _).size _
            rintro U ⟨hU, hbU⟩
            obtain ⟨q0, q1, q2, q3, _⟩ := hU.set4
            exact bodyPost_ret (v := .tuple #[setV 0, .int .i64 3]) (by simp [results, Tryd.results58, go_sem, q0, q1, q2, q3, setV]) rfl ⟨by rw [HBAD.out]; rfl, hbU⟩
          · have HPG := Lib.hid (HGOOD.out a b hru hal)
            clear hru
            go_wp2_with (first | (go_at_call 85; ((with_reducible refine (HC.out _ (HG.out.below HW.out)).mono ?_)); rintro e w2 ⟨rfl, hb2⟩; have HA2 := Lib.hid (HA.out.below hb2 HA.out.lt); have HB2 := Lib.hid (HB.out.below hb2 HB.out.lt); have HW2 := Lib.hid (HW.out.trans (hb2.mono HW.out.size)); clear hb2) | (go_at_call 86; ((with_reducible refine (HRUN.out _ (HG.out.below HW2.out)).mono ?_)); rintro e w3 ⟨hb3, rfl⟩; have HA3 := Lib.hid (HA2.out.below hb3 HA2.out.lt); have HB3 := Lib.hid (HB2.out.below hb3 HB2.out.lt); have HW3 := Lib.hid (HW2.out.trans (hb3.mono HW2.out.size)); have hla := HA3.out.lt; have hlb := HB3.out.lt; obtain ⟨a0, a1, a2, a3, af⟩ := HA3.out.set4; obtain ⟨b0, b1, b2, b3, bf⟩ := HB3.out.set4; clear hb3))
            refine named (fun V => Blk V w3.heap.size (spanA a b) 86 ∧ Blk V w.heap.size (setA 0) 25 ∧ Blk V (w.heap.size + 1) (setA N) 25 ∧ Below w.heap.size w V) ⟨Blk.new _ _ _, HA3.out.alloc _, HB3.out.alloc _, HW3.out.alloc HW3.out.size _⟩ ?_
            rintro V ⟨vs, vA, vB, vW⟩
            clear a0 a1 a2 a3 af b0 b1 b2 b3 bf hla hlb HA HB HW HA2 HB2 HW2
            have hl3 := vs.lt
            have hs3 : w.heap.size + 1 < w3.heap.size := HB3.out.lt
            clear HA3 HB3 HW3
            go_loopw [10] (fun tn wv => ∃ n : Nat, a ≤ n ∧ n ≤ b + 1 ∧ tn = .int .i64 n ∧ Blk wv w3.heap.size (spanA a b) 86 ∧ Blk wv w.heap.size (setA 0) 25 ∧ Blk wv (w.heap.size + 1) (setA (ins N a (n - a))) 25 ∧ Below w.heap.size w wv) (fun tn _ => b + 1 - (intOf tn).toNat)
            case atStart => exact ⟨a, Nat.le_refl _, by omega, rfl, vs, vA, by rw [Nat.sub_self]; exact vB, vW⟩
            case round =>
              clear vs vA vB vW
              obtain ⟨n, hn1, hn2, rfl, vs, vA, vB, vW⟩ := hrel
              have VS := Lib.hid vs
              have VA := Lib.hid vA
              have VB := Lib.hid vB
              have VW := Lib.hid vW
              obtain ⟨s0, s1, sf⟩ := vs.cells2
              obtain ⟨b0, b1, b2, b3, bf⟩ := vB.set4
              clear vs vA vB vW
              by_cases hnb : n ≤ b
              · have HI : Hid (ins N a (n - a) ||| 2 ^ n = ins N a (n + 1 - a)) := by
                  rw [Hid, show n + 1 - a = (n - a) + 1 by omega]; simp only [ins]; rw [show a + (n - a) = n by omega]
                have hn256 : n < 256 := by omega
                go_wp2_with (go_at_call 19; refine (with_in _ n _ hn256).mono ?_; rintro e w5 ⟨rfl, hb5⟩; simp only [setV]; have V2S := Lib.hid (VS.out.below hb5 VS.out.lt); have V2A := Lib.hid (VA.out.below hb5 VA.out.lt); have V2B := Lib.hid (VB.out.below hb5 VB.out.lt); have V2W := Lib.hid (VW.out.trans (hb5.mono VW.out.size)); clear hb5 b0 b1 b2 b3 bf s0 s1 sf; obtain ⟨b0, b1, b2, b3, bf⟩ := V2B.out.set4)
                refine ⟨⟨n + 1, by omega, by omega, rfl, V2S.out.other4 (by omega) _ _ _ _, V2A.out.other4 (by omega) _ _ _ _, ?_, below_put4 V2W.out (Nat.le_succ _) _ _ _ _⟩, by simp [intOf]; omega⟩
                have e := V2B.out.putS (ins N a (n - a) ||| 2 ^ n)
                rw [HI.out] at e
                rw [HI.out]
                exact e
              · have HI : Hid (n - a = b - a + 1) := by unfold Hid; omega
                have hnb' : n = b + 1 := by omega
                subst hnb'
                go_wp2_with fail
                refine ⟨⟨p2, b + 2, ins N a (b - a + 1), p3, rfl, rfl, rfl, by omega, by omega, HPG.out, VA.out, by have e := VB.out; rw [HI.out] at e; exact e, VW.out⟩, ?_⟩
                cases p3 with
                | false => simp [leftP]
                | true => have := HC3.out rfl; simp [leftP, strLen, ByteArray.size]; omega
end Go.Proofs.YtjifajigigflkaaDoor
/- Package bits: runs. -/
namespace Go.Proofs.YtjifajigigflkaaDoor
set_option linter.unusedSimpArgs false
set_option linter.unusedVariables false
open Go Go.RowKit Go.Shelf

/-- The runs of N behind a number. -/
def runsL (N : Nat) : Nat → Int → List (Nat × Nat)
  | 0, _ => []
  | f + 1, last => match nextO N last with
    | none => []
    | some a => (a, runE N 256 a) :: runsL N f (runE N 256 a)
def spansL : List (Nat × Nat) → List Value
  | [] => []
  | (a, b) :: l => .int .i64 (a : Int) :: .int .i64 (b : Int) :: spansL l
theorem spansL_snoc : ∀ (l : List (Nat × Nat)) (a b : Nat), spansL (l ++ [(a, b)]) = spansL l ++ [.int .i64 (a : Int), .int .i64 (b : Int)]
  | [], _, _ => rfl
  | (x, y) :: l, a, b => by simp [spansL, spansL_snoc l a b]
theorem spansL_length : ∀ l : List (Nat × Nat), (spansL l).length = l.length * 2
  | [] => rfl
  | (_, _) :: l => by simp [spansL, spansL_length l]; omega
theorem infoSpan : (Tryd.prog.info? 86).map (fun i => (i.zero, i.size, i.bytes)) = some (some (.agg #[.int .i64 0, .int .i64 0]), 2, 16) := by kernel_rfl
theorem cells_two_new (w : World) (x y : Value) (t : TypeId) : ∀ (j : Nat) (u : Value), [x, y][j]? = some u → (w.alloc (.cells #[x, y] t)).cell? ((⟨w.heap.size, 0, none⟩ : Addr).add j) = some u := by
  intro j u hj
  have hB := Blk.new w #[x, y] t
  have hadd : (⟨w.heap.size, 0, none⟩ : Addr).add j = ⟨w.heap.size, j, none⟩ := by unfold Addr.add; split <;> simp_all
  rw [hadd, hB.cell]
  simpa using hj
theorem nextO_beyond {N : Nat} {n : Int} (h : 255 ≤ n) : nextO N n = none := by unfold nextO; rw [if_pos h]
theorem runsL_fuel {N : Nat} (hN : N < 2 ^ 256) : ∀ (f f' : Nat) (last : Int), -1 ≤ last → 255 - last < f → 255 - last < f' → runsL N f last = runsL N f' last
  | 0, f', last, h0, h1, h2 => by
    cases f' with
    | zero => rfl
    | succ f' => simp only [runsL]; rw [nextO_beyond (by omega)]
  | f + 1, 0, last, h0, h1, h2 => by simp only [runsL]; rw [nextO_beyond (by omega)]
  | f + 1, f' + 1, last, h0, h1, h2 => by
    simp only [runsL]
    cases hn : nextO N last with
    | none => rfl
    | some a =>
      obtain ⟨h3, h4, h5, _⟩ := of_next_some hn
      obtain ⟨r1, r2, _, _⟩ := run_of hN h5
      simp only []
      rw [runsL_fuel hN f f' _ (by omega) (by omega) (by omega)]
set_option maxRecDepth 100000 in
set_option maxHeartbeats 1000000 in
theorem runs_any (N : Nat) (w : World) (hg : Gl w) (hN : N < 2 ^ 256) :
    Calls Tryd.prog 82 #[setV N] w fun e w' => ∃ v, e = .returned v ∧ w'.ownsRow w.heap.size 86 2 v (runsL N 257 (-1)).length (spansL (runsL N 257 (-1))) ∧ Below w.heap.size w w' := by
  have HG := Lib.hid hg
  clear hg
  go_enter Tryd.func82, Tryd.ntmps82
  simp only [setV]
  go_wp2_with fail
  go_step3
  go_wp2_with fail
  go_step3
  go_wp2_with fail
  obtain ⟨i0, hi0, hz0, hz1, hz2⟩ := info_parts infoSpan
  go_loopg [3, 4] 256 (fun g t3 t4 wr => ∃ (last : Int) (pre : List (Nat × Nat)), last + g = 255 ∧ -1 ≤ last ∧ t4 = .int .i64 last ∧ pre.length + g ≤ 256 ∧ Hid (runsL N 257 (-1) = pre ++ runsL N (g + 1) last) ∧ wr.ownsRow w.heap.size 86 2 t3 pre.length (spansL pre) ∧ Blk wr w.heap.size (setA N) 25 ∧ Below w.heap.size w wr)
  case atStart => exact ⟨-1, [], by omega, by omega, rfl, by simp, rfl, World.ownsRow_nil _ _ _ _, Blk.newW _ _ _, below_new1 _ _⟩
  case round =>
    obtain ⟨last, pre, hlg, hl1, rfl, hpl, HP, hO, hB, hW⟩ := hrel
    have HO := Lib.hid hO
    have HB := Lib.hid hB
    have HW := Lib.hid hW
    clear hO hB hW
    obtain ⟨b0, b1, b2, b3, bf⟩ := HB.out.set4
    cases hn : nextO N last with
    | none =>
      have HN : Hid (runsL N 257 (-1) = pre) := by rw [Hid, HP.out]; simp [runsL, hn]
      have HNX : Hid (∀ w, Gl w → Calls Tryd.prog 21 #[setV N, .int .i64 last] w fun e w' => e = .returned (.tuple #[.int .i64 0, .bool false]) ∧ Below w.heap.size w w') := fun w hg => next_none hn w hg
      clear hn
      go_wp2_with (go_at_call 21; refine (HNX.out _ (HG.out.below HW.out)).mono ?_; rintro e w2 ⟨rfl, hb2⟩)
      rw [Exit.noGoto_ret]
      go_ret
      refine ⟨_, rfl, ?_, HW.out.trans (hb2.mono HW.out.size)⟩
      rw [HN.out]
      exact ownsRow_below HO.out hb2
    | some a =>
      obtain ⟨h3, h4, h5, _⟩ := of_next_some hn
      obtain ⟨r1, r2, r3, r4⟩ := run_of hN h5
      obtain ⟨e, he⟩ : ∃ e, e = runE N 256 a := ⟨_, rfl⟩
      have HN : Hid (runsL N 257 (-1) = (pre ++ [(a, e)]) ++ runsL N (255 - e + 1) e) := by
        rw [Hid, HP.out, show runsL N (gk + 1) last = (a, runE N 256 a) :: runsL N gk (runE N 256 a) by simp only [runsL, hn]]
        rw [← he, runsL_fuel hN gk (255 - e + 1) e (by omega) (by omega) (by omega)]; simp
      have HNX : Hid (∀ w, Gl w → Calls Tryd.prog 21 #[setV N, .int .i64 last] w fun e w' => e = .returned (.tuple #[.int .i64 a, .bool true]) ∧ Below w.heap.size w w') := fun w hg => next_some hn w hg
      rw [← he] at r1 r2 r3 r4
      have HR3 := Lib.hid r3
      have HR4 := Lib.hid r4
      clear hn he r3 r4 h5 HP
      go_wp2_with (go_at_call 21; refine (HNX.out _ (HG.out.below HW.out)).mono ?_; rintro e w2 ⟨rfl, hb2⟩)
      have HO2 := Lib.hid (ownsRow_below HO.out hb2)
      have HB2 := Lib.hid (HB.out.below hb2 HB.out.lt)
      have HW2 := Lib.hid (HW.out.trans (hb2.mono HW.out.size))
      clear hb2 b0 b1 b2 b3 bf HO HB HW HNX
      go_loopg [3, 4] (e - a) (fun h t3 t4 wv => ∃ m : Nat, m + h = e ∧ a ≤ m ∧ t4 = .int .i64 m ∧ wv.ownsRow w.heap.size 86 2 t3 pre.length (spansL pre) ∧ Blk wv w.heap.size (setA N) 25 ∧ Below w.heap.size w wv)
      case atStart => exact ⟨a, by omega, Nat.le_refl _, rfl, HO2.out, HB2.out, HW2.out⟩
      case round =>
        obtain ⟨m, hmg, ham, rfl, hO, hB, hW⟩ := hrel
        have KO := Lib.hid hO
        have KB := Lib.hid hB
        have KW := Lib.hid hW
        clear hO hB hW HO2 HB2 HW2
        obtain ⟨b0, b1, b2, b3, bf⟩ := KB.out.set4
        by_cases hme : m < e
        · have HH : Hid (∀ w, Calls Tryd.prog 27 #[setV N, .int .i64 ((m : Int) + 1)] w fun e w' => e = .returned (.bool true) ∧ Below w.heap.size w w') := fun w => by
            have h := has_any N ((m + 1 : Nat) : Int) w
            rw [hasB_nat hN, HR3.out (m + 1) (by omega) (by omega)] at h
            exact h
          go_wp2_with (go_at_call 27; refine (HH.out _).mono ?_; rintro e w5 ⟨rfl, hb5⟩)
          go_roundg (gk - 1)
          case measure => omega
          case rel => exact ⟨m + 1, by omega, by omega, rfl, ownsRow_below KO.out hb5, KB.out.below hb5 KB.out.lt, KW.out.trans (hb5.mono KW.out.size)⟩
        · have hme' : m = e := by omega
          subst hme'
          have HH : Hid (∀ w, Calls Tryd.prog 27 #[setV N, .int .i64 ((m : Int) + 1)] w fun e w' => e = .returned (.bool false) ∧ Below w.heap.size w w') := fun w => by
            have h := has_any N ((m + 1 : Nat) : Int) w
            rw [hasB_nat hN, HR4.out] at h
            exact h
          go_wp2_with (first | (go_at_call 27; refine (HH.out _).mono ?_; rintro e w5 ⟨rfl, hb5⟩; have K5O := Lib.hid (ownsRow_below KO.out hb5); have K5B := Lib.hid (KB.out.below hb5 KB.out.lt); have K5W := Lib.hid (KW.out.trans (hb5.mono KW.out.size)); clear hb5) | (at_builtin; go_loud (refine wpList_append_own _ rfl _ _ 83 rfl w.heap.size 86 i0 _ 2 16 Tryd.underlying83 hi0 hz0 hz1 hz2 rfl (by decide) u3 pre.length (spansL pre) rfl (K5O.out.alloc _) ⟨w5.heap.size, 0, none⟩ 1 1 [.int .i64 (a : Int), .int .i64 (m : Int)] rfl rfl (cells_two_new _ _ _ _) (by simp [Value.oneCell']) (by simp only [maxLen]; omega) (by omega) (by have := K5W.out.size; simp; omega) ?_); intro v2 w6 hown' hgrow _; have K6O := Lib.hid hown'; have hq : Below w.heap.size w (w5.alloc (.cells #[.int .i64 (a : Int), .int .i64 (m : Int)] 86)) := K5W.out.alloc K5W.out.size _; have K6B : Hid (Blk w6 w.heap.size (setA N) 25) := blk_grown (K5B.out.alloc _) (by decide) (K5O.out.alloc _) hgrow; have K6W : Hid (Below w.heap.size w w6) := hq.grown hgrow hq.size (fun k hk => (World.ownsRow.lt K5O.out k hk).1); clear hq; clear hown' hgrow))
          go_roundg (255 - m)
          case measure => omega
          case rel => exact ⟨m, pre ++ [(a, m)], by omega, by omega, rfl, by simp; omega, HN.out, by rw [spansL_snoc]; simpa using K6O.out, K6B.out, K6W.out⟩
end Go.Proofs.YtjifajigigflkaaDoor
/- Package bits: Print. -/
namespace Go.Proofs.YtjifajigigflkaaDoor
set_option linter.unusedSimpArgs false
set_option linter.unusedVariables false
open Go Go.RowKit Go.Shelf

/-- The text of a run. -/
def runTxt (p : Nat × Nat) : List UInt8 := if p.1 < p.2 then Lib.itoa (p.1 : Int) ++ 45 :: Lib.itoa (p.2 : Int) else Lib.itoa (p.1 : Int)
def runB (p : Nat × Nat) : ByteArray := ⟨(runTxt p).toArray⟩
/-- The text of a list of runs. -/
def printL : List (Nat × Nat) → List UInt8
  | [] => [45]
  | p :: l => Lib.join ((p :: l).map runTxt) [44]
def strsL (l : List (Nat × Nat)) : List Value := l.map fun p => .string (runB p)
theorem strsL_length (l : List (Nat × Nat)) : (strsL l).length = l.length := List.length_map _
theorem runTxt_len {p : Nat × Nat} (h1 : p.1 ≤ 255) (h2 : p.2 ≤ 255) : (runTxt p).length ≤ 43 := by
  have a1 := Lib.itoa_length_le (p.1 : Int) (by omega) (by omega)
  have a2 := Lib.itoa_length_le (p.2 : Int) (by omega) (by omega)
  unfold runTxt
  split
  · simp; omega
  · omega
theorem runsL_mem {N : Nat} (hN : N < 2 ^ 256) : ∀ (f : Nat) (last : Int), ∀ p ∈ runsL N f last, p.1 ≤ p.2 ∧ p.2 ≤ 255
  | 0, last, p, hp => by simp [runsL] at hp
  | f + 1, last, p, hp => by
    simp only [runsL] at hp
    cases hn : nextO N last with
    | none => rw [hn] at hp; simp at hp
    | some a =>
      rw [hn] at hp
      obtain ⟨h3, h4, h5, _⟩ := of_next_some hn
      obtain ⟨r1, r2, _, _⟩ := run_of hN h5
      simp only [List.mem_cons] at hp
      rcases hp with rfl | hp
      · exact ⟨r1, by simp only []; omega⟩
      · exact runsL_mem hN f _ p hp
theorem runsL_len (N : Nat) : ∀ (f : Nat) (last : Int), (runsL N f last).length ≤ f
  | 0, last => by simp [runsL]
  | f + 1, last => by
    simp only [runsL]
    cases hn : nextO N last with
    | none => simp
    | some a => simp only [List.length_cons]; have := runsL_len N f (runE N 256 a); omega
theorem spansL_get : ∀ (l : List (Nat × Nat)) (k : Nat) (p : Nat × Nat), l[k]? = some p → (spansL l)[k * 2]? = some (.int .i64 (p.1 : Int)) ∧ (spansL l)[k * 2 + 1]? = some (.int .i64 (p.2 : Int))
  | [], k, p, h => by simp at h
  | (a, b) :: l, 0, p, h => by
    obtain rfl : (a, b) = p := by simpa using h
    exact ⟨rfl, rfl⟩
  | (a, b) :: l, k + 1, p, h => by
    have := spansL_get l k p (by simpa using h)
    rw [show (k + 1) * 2 = k * 2 + 1 + 1 by omega]
    simpa [spansL] using this
theorem lens_le (M : Nat) : ∀ xs : List (List UInt8), (∀ x ∈ xs, x.length ≤ M) → Lib.lens xs ≤ xs.length * M
  | [], _ => by simp [Lib.lens]
  | x :: xs, h => by
    have h1 := lens_le M xs fun y hy => h y (List.mem_cons_of_mem _ hy)
    have h2 := h x (List.mem_cons_self ..)
    simp only [Lib.lens, List.map_cons, List.sum_cons, List.length_cons, Nat.add_mul] at h1 ⊢
    omega
theorem join_len (M : Nat) (xs : List (List UInt8)) (sep : List UInt8) (h : ∀ x ∈ xs, x.length ≤ M) : (Lib.join xs sep).length ≤ xs.length * (M + sep.length) := by
  cases xs with
  | nil => simp [Lib.join_nil]
  | cons x r =>
    have h1 := lens_le M r fun y hy => h y (List.mem_cons_of_mem _ hy)
    have h2 := h x (List.mem_cons_self ..)
    rw [Lib.join_cons, List.length_append, Lib.joinTail_length, List.length_cons, Nat.add_mul, Nat.mul_add, Nat.mul_comm r.length sep.length]
    omega
theorem ownsRow_slice {w : World} {B : Nat} {e : TypeId} {size : Nat} {v : Value} {n : Nat} {xs : List Value} (h : w.ownsRow B e size v n xs) : ∃ p cap, v = .slice p n cap ∧ n ≤ cap ∧ (n = 0 ∨ ∃ g, p = some ⟨g, 0, none⟩ ∧ B ≤ g) := by
  rcases h.2 with ⟨rfl, rfl⟩ | ⟨g, cap, cur, rfl, hb, _, hc, _⟩
  · exact ⟨none, 0, rfl, Nat.le_refl _, .inl rfl⟩
  · exact ⟨_, cap, rfl, hc, .inr ⟨g, rfl, hb⟩⟩
theorem owns_apart {w : World} {B1 B2 : Nat} {e1 e2 : TypeId} {s1 s2 : Nat} {v1 v2 : Value} {n1 n2 : Nat} {xs1 xs2 : List Value} (h1 : w.ownsRow B1 e1 s1 v1 n1 xs1) (h2 : w.ownsRow B2 e2 s2 v2 n2 xs2) (hne : e1 ≠ e2) : v1.ownBlock = none ∨ v1.ownBlock ≠ v2.ownBlock := by
  rcases h1.2 with ⟨rfl, _⟩ | ⟨g, cap, cur, rfl, _, hb, _⟩
  · exact .inl rfl
  · refine .inr fun h => ?_
    rcases h2.2 with ⟨rfl, _⟩ | ⟨g2, cap2, cur2, rfl, _, hb2, _⟩
    · simp [Value.ownBlock] at h
    · obtain rfl : g = g2 := by simpa [Value.ownBlock] using h
      rw [hb] at hb2
      simp only [Option.some.injEq, Obj.cells.injEq] at hb2
      exact hne hb2.2.1
theorem infoStr : (Tryd.prog.info? 9).map (fun i => (i.zero, i.size, i.bytes)) = some (some (.string { data := #[] }), 1, 16) := by kernel_rfl
theorem strsL_snoc {L : List (Nat × Nat)} {k : Nat} {p : Nat × Nat} (h : L[k]? = some p) : strsL (L.take k) ++ [.string (runB p)] = strsL (L.take (k + 1)) := by
  rw [List.take_add_one, h]; simp [strsL]
set_option maxRecDepth 100000 in
set_option maxHeartbeats 1000000 in
theorem print_any (N : Nat) (w : World) (hg : Gl w) (hN : N < 2 ^ 256) :
    Calls Tryd.prog 57 #[setV N] w fun e w' => e = .returned (.string ⟨(printL (runsL N 257 (-1))).toArray⟩) ∧ Below w.heap.size w w' := by
  have HG := Lib.hid hg
  clear hg
  have HM : Hid (∀ p ∈ runsL N 257 (-1), p.1 ≤ p.2 ∧ p.2 ≤ 255) := runsL_mem hN 257 (-1)
  have hlen := runsL_len N 257 (-1)
  have HR : Hid (∀ w, Gl w → Calls Tryd.prog 82 #[setV N] w fun e w' => ∃ p cap, e = .returned (.slice p (runsL N 257 (-1)).length cap) ∧ w'.ownsRow w.heap.size 86 2 (.slice p (runsL N 257 (-1)).length cap) (runsL N 257 (-1)).length (spansL (runsL N 257 (-1))) ∧ Below w.heap.size w w') := fun w hg => (runs_any N w hg hN).mono fun e w' ⟨v, h1, h2, h3⟩ => by
    obtain ⟨p, cap, rfl, _⟩ := ownsRow_slice h2
    exact ⟨p, cap, h1, h2, h3⟩
  obtain ⟨L, hL⟩ : ∃ L, L = runsL N 257 (-1) := ⟨_, rfl⟩
  rw [← hL] at HM HR hlen ⊢
  clear hL
  obtain ⟨R, hR⟩ : ∃ R : ByteArray, R = ⟨(printL L).toArray⟩ := ⟨_, rfl⟩
  rw [← hR]
  have HPR := Lib.hid hR
  clear hR
  go_enter Tryd.func57, Tryd.ntmps57
  simp only [setV]
  go_wp2_with (go_at_call 82; refine (HR.out _ (HG.out.below (below_new1 w _))).mono ?_; rintro e w2 ⟨p, cap, rfl, ho, hb⟩; have HO := Lib.hid (ownsRow_le ho (base' := w.heap.size) (by simp)); have HW : Hid (Below w.heap.size w w2) := (below_new1 w _).trans (hb.mono (by simp)); clear ho hb)
  obtain ⟨i0, hi0, hz0, hz1, hz2⟩ := info_parts infoStr
  go_loopg [3, 10] L.length (fun gm t3 t10 wr => ∃ k : Nat, k + gm = L.length ∧ t10 = .int .i64 k ∧ wr.ownsRow w.heap.size 9 1 t3 k (strsL (L.take k)) ∧ wr.ownsRow w.heap.size 86 2 (.slice p L.length cap) L.length (spansL L) ∧ Below w.heap.size w wr)
  case atStart => exact ⟨0, by omega, rfl, World.ownsRow_nil _ _ _ _, HO.out, HW.out⟩
  case round =>
    obtain ⟨k, hkg, rfl, hT, hO, hW⟩ := hrel
    have KT := Lib.hid hT
    have KO := Lib.hid hO
    have KW := Lib.hid hW
    clear hT hO hW HO HW
    by_cases hk : k < L.length
    · obtain ⟨q, hq⟩ : ∃ q, L[k]? = some q := ⟨L[k], List.getElem?_eq_getElem hk⟩
      obtain ⟨hq1, hq2⟩ := HM.out q (List.mem_of_getElem? hq)
      obtain ⟨g, rfl, hgb⟩ : ∃ g, p = some ⟨g, 0, none⟩ ∧ w.heap.size ≤ g := by
        obtain ⟨p', cap', h1, _, h2⟩ := ownsRow_slice KO.out
        cases h1
        rcases h2 with h2 | h2
        · omega
        · exact h2
      have c0 : wr.cell? ⟨g, k * 2, none⟩ = some (.int .i64 (q.1 : Int)) := by rw [World.ownsRow.cellAt KO.out (k * 2) (by omega)]; exact (spansL_get L k q hq).1
      have c1 : wr.cell? ⟨g, k * 2 + 1, none⟩ = some (.int .i64 (q.2 : Int)) := by rw [World.ownsRow.cellAt KO.out (k * 2 + 1) (by omega)]; exact (spansL_get L k q hq).2
      have HQ : Hid (strsL (L.take k) ++ [.string (runB q)] = strsL (L.take (k + 1))) := strsL_snoc hq
      have HI : Hid (∀ w, Gl w → Calls Tryd.prog 83 #[.int .i64 (q.1 : Int)] w fun e w' => e = .returned (.string ⟨(Lib.itoa q.1).toArray⟩) ∧ Below w.heap.size w w') := fun w hg => itoa_any q.1 w hg (by omega) (by omega)
      have HJ : Hid (∀ w, Gl w → Calls Tryd.prog 83 #[.int .i64 (q.2 : Int)] w fun e w' => e = .returned (.string ⟨(Lib.itoa q.2).toArray⟩) ∧ Below w.heap.size w w') := fun w hg => itoa_any q.2 w hg (by omega) (by omega)
      obtain ⟨E, hE⟩ : ∃ E, E = runB q := ⟨_, rfl⟩
      rw [← hE] at HQ
      by_cases hab : q.1 < q.2
      · have hE' : E = ⟨(Lib.itoa q.1).toArray⟩ ++ (⟨#[45]⟩ ++ ⟨(Lib.itoa q.2).toArray⟩) := by
          rw [hE, show (⟨#[45]⟩ : ByteArray) = ⟨[45].toArray⟩ from rfl, ByteArray.mk_append_mk, ByteArray.mk_append_mk]; unfold runB runTxt; rw [if_pos hab]
          rfl
        have l1 := Lib.itoa_length_le (q.1 : Int) (by omega) (by omega)
        have l2 := Lib.itoa_length_le (q.2 : Int) (by omega) (by omega)
        obtain ⟨A, hA⟩ : ∃ A : ByteArray, A = ⟨(Lib.itoa q.1).toArray⟩ := ⟨_, rfl⟩
        obtain ⟨C, hC⟩ : ∃ C : ByteArray, C = ⟨(Lib.itoa q.2).toArray⟩ := ⟨_, rfl⟩
        have sA : A.size ≤ 21 := by rw [hA]; simpa [ByteArray.size] using l1
        have sC : C.size ≤ 21 := by rw [hC]; simpa [ByteArray.size] using l2
        rw [← hA, ← hC] at hE'
        rw [← hA] at HI
        rw [← hC] at HJ
        obtain ⟨D, hD⟩ : ∃ D : ByteArray, D = ⟨#[45]⟩ ++ C := ⟨_, rfl⟩
        have sD : D.size ≤ 22 := by rw [hD, ByteArray.size_append']; have : (⟨#[45]⟩ : ByteArray).size = 1 := rfl; omega
        rw [← hD] at hE'
        have add1 : ∀ w, (Op.stringOp .add ⟨#[45]⟩ C).run Tryd.prog w = .ok (.string D) w := fun w => by rw [run_string_add_sum w _ _ (by have : (⟨#[45]⟩ : ByteArray).size = 1 := rfl; omega), hD]
        have add2 : ∀ w, (Op.stringOp .add A D).run Tryd.prog w = .ok (.string E) w := fun w => by rw [run_string_add_sum w _ _ (by omega), hE']
        clear hE hE' hq hA hC hD l1 l2 sA sC sD
        obtain ⟨a, ha⟩ : ∃ a, a = q.1 := ⟨_, rfl⟩
        obtain ⟨b, hb⟩ : ∃ b, b = q.2 := ⟨_, rfl⟩
        rw [← ha] at hq1 c0 HI hab
        rw [← hb] at hq1 c1 hq2 hab HJ
        clear ha hb HM
        go_wp2_with (first | (go_at_call 83; (refine (HI.out _ (HG.out.below (KW.out.alloc KW.out.size _))).mono ?_; rintro e w3 ⟨rfl, hb3⟩; have hbx : Below wr.heap.size wr w3 := (below_new1 wr _).trans (hb3.mono (by simp)); have K3O := Lib.hid (ownsRow_below KO.out hbx); have K3T := Lib.hid (ownsRow_below KT.out hbx); have K3W := Lib.hid (KW.out.trans (hbx.mono KW.out.size)); have hs : Blk w3 wr.heap.size (spanA a b) 86 := (Blk.new wr (spanA a b) _).below hb3 (by simp); obtain ⟨d0, d1, df⟩ := hs.cells2; clear hs hb3 hbx)) | (go_at_call 83; go_loud (refine (HJ.out _ (HG.out.below K3W.out)).mono ?_; rintro e w4 ⟨rfl, hb4⟩; have K4O := Lib.hid (ownsRow_below K3O.out hb4); have K4T := Lib.hid (ownsRow_below K3T.out hb4); have K4W := Lib.hid (K3W.out.trans (hb4.mono K3W.out.size)); clear hb4)) | (at_builtin; go_loud (refine wpList_append_own _ rfl _ _ 82 rfl w.heap.size 9 i0 _ 1 16 Tryd.underlying82 hi0 hz0 hz1 hz2 rfl (by decide) u3 k (strsL (L.take k)) rfl (K4T.out.alloc _) ⟨w4.heap.size, 0, none⟩ 1 1 [.string E] rfl rfl (cell_one_new _ _ _) (by simp [Value.oneCell']) (by simp only [maxLen]; omega) (by omega) (by have := K4W.out.size; simp; omega) ?_; intro v2 w6 hown' hgrow _; have hq : Below w.heap.size w (w4.alloc (.cells #[.string E] 9)) := K4W.out.alloc K4W.out.size _; have K6O := Lib.hid (World.ownsRow.kept (K4O.out.alloc (.cells #[.string E] 9)) hgrow (owns_apart K4O.out K4T.out (by decide))); have K6T : Hid (w6.ownsRow w.heap.size 9 1 v2 (k + 1) (strsL (L.take (k + 1)))) := HQ.out ▸ hown'; have K6W : Hid (Below w.heap.size w w6) := hq.grown hgrow hq.size (fun k hk => (World.ownsRow.lt K4T.out k hk).1); clear hown' hgrow hq)))
        go_roundg (gk - 1)
        case measure => omega
        case rel => exact ⟨k + 1, by omega, by simp, K6T.out, K6O.out, K6W.out⟩
      · have hE' : E = ⟨(Lib.itoa q.1).toArray⟩ := by rw [hE]; unfold runB runTxt; rw [if_neg hab]
        rw [← hE'] at HI
        clear hE hE' hq HJ
        obtain ⟨a, ha⟩ : ∃ a, a = q.1 := ⟨_, rfl⟩
        obtain ⟨b, hb⟩ : ∃ b, b = q.2 := ⟨_, rfl⟩
        rw [← ha] at hq1 c0 HI hab
        rw [← hb] at hq1 c1 hq2 hab
        clear ha hb HM
        go_wp2_with (first | (go_at_call 83; go_loud (refine (HI.out _ (HG.out.below (KW.out.alloc KW.out.size _))).mono ?_; rintro e w3 ⟨rfl, hb3⟩; have hbx : Below wr.heap.size wr w3 := (below_new1 wr _).trans (hb3.mono (by simp)); have K3O := Lib.hid (ownsRow_below KO.out hbx); have K3T := Lib.hid (ownsRow_below KT.out hbx); have K3W := Lib.hid (KW.out.trans (hbx.mono KW.out.size)); have hs : Blk w3 wr.heap.size (spanA a b) 86 := (Blk.new wr (spanA a b) _).below hb3 (by simp); obtain ⟨d0, d1, df⟩ := hs.cells2; clear hs hb3 hbx)) | (at_builtin; go_loud (refine wpList_append_own _ rfl _ _ 82 rfl w.heap.size 9 i0 _ 1 16 Tryd.underlying82 hi0 hz0 hz1 hz2 rfl (by decide) u3 k (strsL (L.take k)) rfl (K3T.out.alloc _) ⟨w3.heap.size, 0, none⟩ 1 1 [.string E] rfl rfl (cell_one_new _ _ _) (by simp [Value.oneCell']) (by simp only [maxLen]; omega) (by omega) (by have := K3W.out.size; simp; omega) ?_; intro v2 w6 hown' hgrow _; have hq : Below w.heap.size w (w3.alloc (.cells #[.string E] 9)) := K3W.out.alloc K3W.out.size _; have K6O := Lib.hid (World.ownsRow.kept (K3O.out.alloc (.cells #[.string E] 9)) hgrow (owns_apart K3O.out K3T.out (by decide))); have K6T : Hid (w6.ownsRow w.heap.size 9 1 v2 (k + 1) (strsL (L.take (k + 1)))) := HQ.out ▸ hown'; have K6W : Hid (Below w.heap.size w w6) := hq.grown hgrow hq.size (fun k hk => (World.ownsRow.lt K3T.out k hk).1); clear hown' hgrow hq)))
        go_roundg (gk - 1)
        case measure => omega
        case rel => exact ⟨k + 1, by omega, by simp, K6T.out, K6O.out, K6W.out⟩
    · have e : k = L.length := by omega
      subst e
      have HT : Hid (wr.ownsRow w.heap.size 9 1 u3 L.length (strsL L)) := by have := KT.out; rwa [List.take_length] at this
      clear KT KO hk hkg
      cases hcl : L with
      | nil =>
        obtain ⟨p', cap', rfl, _⟩ := ownsRow_slice HT.out
        have h0 : L.length = 0 := by rw [hcl]; rfl
        have HNIL : Hid (R = ⟨#[45]⟩) := by rw [Hid, HPR.out, hcl]; rfl
        rw [h0]
        clear hcl HM HR HT h0 HPR
        go_wp2_with fail
        go_ret
        exact ⟨by rw [HNIL.out]; rfl, KW.out⟩
      | cons q0 l0 =>
        have h0 : ¬ L.length = 0 := by rw [hcl]; simp
        have HP : Hid (printL L = Lib.join (L.map runTxt) [44]) := by rw [hcl]; rfl
        rw [← hcl]
        clear hcl
        obtain ⟨p', cap', rfl, hcap, hg2⟩ := ownsRow_slice HT.out
        obtain ⟨g2, rfl, _⟩ : ∃ g, p' = some ⟨g, 0, none⟩ ∧ w.heap.size ≤ g := by
          rcases hg2 with h | h
          · exact absurd h h0
          · exact h
        have hmap : (L.map runB).map (fun b => b.data.toList) = L.map runTxt := by rw [List.map_map]; apply List.map_congr_left; intro x _; simp [runB]
        have hJ := Tryd.strings_Join g2 0 cap' (L.map runB) ⟨#[44]⟩ wr (fun j x hj => by
            rw [List.getElem?_map] at hj
            have hjl : j < L.length := by
              by_cases h : j < L.length
              · exact h
              · rw [List.getElem?_eq_none (by omega)] at hj; cases hj
            rw [Nat.zero_add, World.ownsRow.cellAt HT.out j (by omega)]
            unfold strsL
            rw [List.getElem?_map]
            cases hq : L[j]? with
            | none => rw [hq] at hj; cases hj
            | some q => rw [hq] at hj; simp at hj; subst hj; rfl)
          ((World.ownsRow.lt HT.out g2 rfl).2) (by rw [List.length_map]; omega) (by rw [List.length_map]; omega)
          (by
            rw [hmap]
            have := join_len 43 (L.map runTxt) [44] (fun x hx => by
              obtain ⟨q, hq, rfl⟩ := List.mem_map.1 hx
              obtain ⟨h1, h2⟩ := HM.out q hq
              exact runTxt_len (by omega) h2)
            simp only [List.length_map, List.length_cons, List.length_nil] at this
            have e : ((⟨#[44]⟩ : ByteArray).data.toList : List UInt8) = [44] := rfl
            rw [e]
            omega)
        rw [hmap, List.length_map] at hJ
        have e : ((⟨#[44]⟩ : ByteArray).data.toList : List UInt8) = [44] := rfl
        rw [e, ← HP.out] at hJ
        have HJ := Lib.hid hJ
        rw [← HPR.out] at HJ
        clear hJ HPR HM HR HP e hmap HT hg2
        go_wp2_with (go_at_call 84; go_loud (refine HJ.out.mono ?_; rintro e w5 ⟨rfl, hb5⟩; have KW5 := Lib.hid (KW.out.trans (hb5.mono KW.out.size)); clear hb5))
        go_ret
        exact ⟨rfl, KW5.out⟩
end Go.Proofs.YtjifajigigflkaaDoor
