/- The law JournalSums. -/
import Derived.Test.YtlkehdlhlpbomaaJe
import Derived.Test.YtlkehdlhlpbomaaVj
namespace Go.Proofs.Ytlkehdlhlpbomaa
set_option linter.unusedSimpArgs false
set_option linter.unusedVariables false
open Go Go.RowKit

theorem sumR_two (ls : List Itm) : ∃ h st : Int, sumR ls = .tuple #[.int .u64 h, .int .i64 st] := by
  unfold sumR
  split
  · exact ⟨_, _, rfl⟩
  · exact ⟨_, _, rfl⟩
theorem load_ent {w : World} {b : Nat} {o n : Int} {s : ByteArray} (h0 : w.cell? ⟨b, 0, none⟩ = some (.int .i64 o)) (h1 : w.cell? ⟨b, 1, none⟩ = some (.int .i64 n)) (h2 : w.cell? ⟨b, 2, none⟩ = some (.string s)) : (Instr.loadAt 23 (.pointer (some ⟨b, 0, none⟩))).run Try.prog w = .ok (entV o n s) w := by
  simp [go_sem, Instr.loadAt, h0, h1, h2, entV]
/-- A box that holds an entry. -/
def BoxE (w : World) (b : Nat) (o n : Int) (s : ByteArray) : Prop := b < w.heap.size ∧ w.cell? ⟨b, 0, none⟩ = some (.int .i64 o) ∧ w.cell? ⟨b, 1, none⟩ = some (.int .i64 n) ∧ w.cell? ⟨b, 2, none⟩ = some (.string s)
theorem BoxE.below {w w' : World} {b : Nat} {o n : Int} {s : ByteArray} (h : BoxE w b o n s) (hb : Below w.heap.size w w') : BoxE w' b o n s :=
  ⟨Nat.lt_of_lt_of_le h.1 hb.size, by rw [hb.cell (by exact h.1)]; exact h.2.1, by rw [hb.cell (by exact h.1)]; exact h.2.2.1, by rw [hb.cell (by exact h.1)]; exact h.2.2.2⟩
theorem BoxE.new (w : World) (o n : Int) (s : ByteArray) (t : TypeId) : BoxE (w.alloc (.cells #[.int .i64 o, .int .i64 n, .string s] t)) w.heap.size o n s :=
  ⟨by simp, by rw [World.cell?_alloc_new]; rfl, by rw [World.cell?_alloc_new]; rfl, by rw [World.cell?_alloc_new]; rfl⟩
theorem eql_u64_same (t : TypeId) (a : Int) (x y : Operand) (w : World) : (do eqGuard .eql t x y (.int .u64 a) (.int .u64 a); binOp .eql t (.int .u64 a) (.int .u64 a) : Sem Value).run Try.prog w = .ok (.bool true) w := by
  simp [go_sem]
theorem eql_int_same (t : TypeId) (a : Int) (x y : Operand) (w : World) : (do eqGuard .eql t x y (.int .i64 a) (.int .i64 a); binOp .eql t (.int .i64 a) (.int .i64 a) : Sem Value).run Try.prog w = .ok (.bool true) w := by
  simp [go_sem]
set_option maxRecDepth 100000 in
set_option maxHeartbeats 2000000 in
theorem journalSums_any (eo en : Int) (es : ByteArray) (a : Option Addr) (cap : Nat) (ls : List Itm) (w : World) (hl : ls.length ≤ 9223372036854775807) (hes : es.size ≤ 9223372036854775807) (hs : EntsAt w a ls) :
    Calls Try.prog 3 #[entV eo en es, .slice a ls.length cap] w fun e w' => e = .returned (.bool true) ∧ Below w.heap.size w w' := by
  have HS := Lib.hid hs
  have HSA : Hid (∀ w, Calls Try.prog 4 #[] w fun e w' => e = .returned (.bool true) ∧ Below w.heap.size w w') := sane_any
  have HU : Hid (ls.length ≤ 1000 → (∀ e ∈ ls, e.2.2.size ≤ 2500) → ∃ h st : Int, ∀ W, Below w.heap.size w W → Calls Try.prog 5 #[.slice a ls.length cap] W (fun e w' => e = .returned (.tuple #[.int .u64 h, .int .i64 st]) ∧ Below W.heap.size W w') ∧ Calls Try.prog 6 #[.slice a ls.length cap] W (fun e w' => e = .returned (.tuple #[.int .u64 h, .int .i64 st]) ∧ Below W.heap.size W w')) := Lib.hid fun h1 h2 => by
    obtain ⟨h, st, he⟩ := sumR_two ls
    refine ⟨h, st, fun W hb => ?_⟩
    rw [← he]
    exact ⟨Sum_any a cap ls W h2 h1 (hs.below hb), rSum_any a cap ls W h2 h1 (hs.below hb)⟩
  obtain ⟨n, hn⟩ : ∃ n, n = ls.length := ⟨_, rfl⟩
  rw [← hn] at hl HU ⊢
  have HN := Lib.hid hn
  clear hs hn
  obtain ⟨r, hr⟩ : ∃ r, r = errE (okE eo en es) := ⟨_, rfl⟩
  have HC : Hid (∀ w, Calls Try.prog 7 #[entV eo en es] w fun e w' => e = .returned (.int .i64 r) ∧ Below w.heap.size w w') := Lib.hid fun w => by rw [hr]; exact checkEntry_any eo en es w
  have HRC : Hid (∀ w, Calls Try.prog 8 #[entV eo en es] w fun e w' => e = .returned (.int .i64 r) ∧ Below w.heap.size w w') := Lib.hid fun w => by rw [hr]; exact rcheckEntry_any eo en es w
  clear hr
  go_enter Try.func3, Try.ntmps3
  simp only [entV]
  go_upto_region 3 with (first | (go_at_call 4; refine (HSA.out _).mono ?_; rintro e w2 ⟨rfl, hb⟩))
  refine named (fun V => Below w.heap.size w V ∧ BoxE V w.heap.size eo en es) ⟨((Below.refl _ _).alloc (Nat.le_refl _) _).trans (hb.mono (by simp)), (BoxE.new w eo en es _).below hb⟩ ?_
  clear hb HSA
  rintro W0 ⟨FB, K⟩
  replace FB := Lib.hid FB; replace K := Lib.hid K
  generalize hb2 : w.heap.size = b2 at K ⊢
  have L2 := Lib.hid hb2
  clear hb2
  obtain ⟨_, c0, c1, c2⟩ := K.out
  by_cases h1 : es.size ≤ 2500
  · have t1 : decide (2500 < es.size) = false := decide_eq_false (by omega)
    by_cases h2 : n ≤ 30
    · have t2 : decide (30 < n) = false := decide_eq_false (by omega)
      go_wp2_with fail
      go_loopw [5] (fun ti wr => ∃ k : Nat, k ≤ n ∧ ti = .int .i64 k ∧ Hid (∀ i e, i < k → ls[i]? = some e → e.2.2.size ≤ 2500) ∧ W0 = wr) (fun ti _ => n - (intOf ti).toNat)
      case atStart => exact ⟨0, by omega, rfl, fun i e h => absurd h (by omega), rfl⟩
      case round =>
        obtain ⟨k, hk, rfl, HA, rfl⟩ := hrel
        by_cases hlt : k < n
        · have hkl : k < ls.length := by rw [← HN.out]; exact hlt
          have HAS : Hid (ls[k].2.2.size ≤ 2500 → ∀ i e, i < k + 1 → ls[i]? = some e → e.2.2.size ≤ 2500) := Lib.hid fun h i e hi he => by
            by_cases hik : i = k
            · subst hik
              rw [List.getElem?_eq_getElem hkl] at he
              injection he with he; rw [← he]; exact h
            · exact HA.out i e (by omega) he
          have HEN : Hid (EntsAt W0 a ls) := Lib.hid (HS.out.below FB.out)
          obtain ⟨lb, lo, rfl, hlb, d0, d1, d2⟩ := HEN.out.at hkl
          obtain ⟨x, hx⟩ : ∃ x, x = ls[k] := ⟨_, rfl⟩
          rw [← hx] at HAS d0 d1 d2
          obtain ⟨xo, xn, xs⟩ := x
          clear hx hkl HA
          simp only at d0 d1 d2
          by_cases h3 : xs.size ≤ 2500
          · have t3 : decide (2500 < xs.size) = false := decide_eq_false (by omega)
            have HNX := Lib.hid (HAS.out h3)
            go_wp2_with fail
            exact ⟨⟨k + 1, by omega, by simp, HNX.out, trivial⟩, by simp [intOf]; omega⟩
          · have t3 : decide (2500 < xs.size) = true := decide_eq_true (by omega)
            go_wp2_with fail
            go_ret
            exact ⟨rfl, FB.out⟩
        · have hall : ∀ e ∈ ls, e.2.2.size ≤ 2500 := fun e he => by
            obtain ⟨i, hi⟩ := List.getElem?_of_mem he
            have := (List.getElem?_eq_some_iff.1 hi).1
            exact HA.out i e (by rw [← HN.out] at this; omega) hi
          obtain ⟨hv, st, hU⟩ := HU.out (by omega) hall
          have HU2 : Hid (∀ W, Below w.heap.size w W → Calls Try.prog 5 #[.slice a n cap] W (fun e w' => e = .returned (.tuple #[.int .u64 hv, .int .i64 st]) ∧ Below W.heap.size W w') ∧ Calls Try.prog 6 #[.slice a n cap] W (fun e w' => e = .returned (.tuple #[.int .u64 hv, .int .i64 st]) ∧ Below W.heap.size W w')) := hU
          clear hU hall HA HU
          go_upto_region 10 with (fail)
          go_upto_region 11 with (first | (go_at_call 5; refine (HU2.out _ FB.out).1.mono ?_; rintro e w3 ⟨rfl, hb3⟩))
          have FB3 := Lib.hid (FB.out.trans (hb3.mono FB.out.size))
          have K3 := Lib.hid (K.out.below hb3)
          clear hb3 FB K c0 c1 c2
          go_upto_region 12 with (first | (go_at_call 6; refine (HU2.out _ FB3.out).2.mono ?_; rintro e w4 ⟨rfl, hb4⟩))
          have FB4 := Lib.hid (FB3.out.trans (hb4.mono FB3.out.size))
          have K4 := Lib.hid (K3.out.below hb4)
          clear hb4 FB3 K3
          refine wp_region_old 16 59 (by kernel_rfl) (by kernel_rfl) (by rfl) ?_
          simp only [List.take_succ_cons, List.take_zero, List.drop_succ_cons, List.drop_zero, List.drop_nil]
          refine chain_load (.agg #[.int .i64 eo, .int .i64 en, .string es]) _ _ _ (fun _ _ => Below.refl _ _) rfl rfl (by kernel_rfl) (by kernel_rfl) rfl (fun w1 hC => by have k := K4.out.below (old_end (Below.refl w4.heap.size w4) hC (Nat.le_refl _)); exact load_ent k.2.1 k.2.2.1 k.2.2.2) ?_
          refine chain_call (.int .i64 r) 7 [.agg #[.int .i64 eo, .int .i64 en, .string es]] _ _ (enters_of Try.func7 (by kernel_rfl) rfl) rfl rfl rfl (by kernel_rfl) (by kernel_rfl) rfl rfl (fun w1 hC => HC.out w1) ?_
          refine chain_load (.agg #[.int .i64 eo, .int .i64 en, .string es]) _ _ _ (fun _ _ => Below.refl _ _) rfl rfl (by kernel_rfl) (by kernel_rfl) rfl (fun w1 hC => by have k := K4.out.below (old_end (Below.refl w4.heap.size w4) hC (Nat.le_refl _)); exact load_ent k.2.1 k.2.2.1 k.2.2.2) ?_
          refine chain_call (.int .i64 r) 8 [.agg #[.int .i64 eo, .int .i64 en, .string es]] _ _ (enters_of Try.func8 (by kernel_rfl) rfl) rfl rfl rfl (by kernel_rfl) (by kernel_rfl) rfl rfl (fun w1 hC => HRC.out w1) ?_
          refine chain_bin (.bool true) _ _ _ _ _ (.int .i64 r) (.int .i64 r) (fun _ _ => Below.refl _ _) rfl rfl (by kernel_rfl) (by kernel_rfl) rfl rfl (fun w => eql_int_same _ _ _ _ w) ?_
          refine chain_move (.bool true) _ (fun _ _ => Below.refl _ _) rfl rfl (by kernel_rfl) (by kernel_rfl) rfl ?_
          refine chain_move (.int .u64 hv) _ (fun _ _ => Below.refl _ _) rfl rfl (by kernel_rfl) (by kernel_rfl) rfl ?_
          refine chain_move (.int .u64 hv) _ (fun _ _ => Below.refl _ _) rfl rfl (by kernel_rfl) (by kernel_rfl) rfl ?_
          refine chain_bin (.bool true) _ _ _ _ _ (.int .u64 hv) (.int .u64 hv) (fun _ _ => Below.refl _ _) rfl rfl (by kernel_rfl) (by kernel_rfl) rfl rfl (fun w => eql_u64_same _ _ _ _ w) ?_
          refine chain_pick (.bool true) _ _ _ true (fun _ _ => Below.refl _ _) rfl rfl (by kernel_rfl) (by kernel_rfl) rfl rfl ?_
          refine chain_move (.bool true) _ (fun _ _ => Below.refl _ _) rfl rfl (by kernel_rfl) (by kernel_rfl) rfl ?_
          refine chain_move (.int .i64 st) _ (fun _ _ => Below.refl _ _) rfl rfl (by kernel_rfl) (by kernel_rfl) rfl ?_
          refine chain_move (.int .i64 st) _ (fun _ _ => Below.refl _ _) rfl rfl (by kernel_rfl) (by kernel_rfl) rfl ?_
          refine chain_bin (.bool true) _ _ _ _ _ (.int .i64 st) (.int .i64 st) (fun _ _ => Below.refl _ _) rfl rfl (by kernel_rfl) (by kernel_rfl) rfl rfl (fun w => eql_int_same _ _ _ _ w) ?_
          refine chain_pick (.bool true) _ _ _ true (fun _ _ => Below.refl _ _) rfl rfl (by kernel_rfl) (by kernel_rfl) rfl rfl ?_
          refine chain_assign (.bool true) _ (fun _ _ => Below.refl _ _) rfl rfl (by kernel_rfl) (by kernel_rfl) rfl ?_
          refine chain_end (by rfl) ?_
          intro xs w5 hCw5 hrew5
          simp only [layE, List.foldr_cons, List.foldr_nil, List.set_cons_succ, List.set_cons_zero]
          have FB5 := Lib.hid (old_end FB4.out hCw5 FB4.out.size)
          clear hCw5 hrew5 FB4 K4
          go_wp2_with fail
          go_ret
          exact ⟨rfl, FB5.out⟩
    · have t2 : decide (30 < n) = true := decide_eq_true (by omega)
      go_wp2_with fail
      go_ret
      exact ⟨rfl, FB.out⟩
  · have t1 : decide (2500 < es.size) = true := decide_eq_true (by omega)
    go_wp2_with fail
    go_ret
    exact ⟨rfl, FB.out⟩
end Go.Proofs.Ytlkehdlhlpbomaa
