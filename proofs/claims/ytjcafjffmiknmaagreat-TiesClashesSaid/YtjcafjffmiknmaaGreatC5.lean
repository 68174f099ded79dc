/- Layer 4: the law TiesWitness, where it speaks. -/
import Derived.Test.YtjcafjffmiknmaaGreatC4
import Derived.Deep.DeepCutAuto
namespace Go.Proofs.YtjcafjffmiknmaaGreat
set_option linter.unusedSimpArgs false
set_option linter.unusedVariables false
open Go Go.RowKit

/-- A list at hand. -/
def LstA (p : List Int → Prop) (u : Value) (w : World) : Prop := ∃ (l : List Int) (r : Option Addr) (k : Nat), u = .slice r l.length k ∧ l.length ≤ 1000 ∧ p l ∧ IntsAt w r l
theorem LstA.below {p : List Int → Prop} {u : Value} {w w' : World} (h : LstA p u w) (hb : Below w.heap.size w w') : LstA p u w' := by
  obtain ⟨l, r, k, h1, h2, h3, h4⟩ := h
  exact ⟨l, r, k, h1, h2, h3, h4.below hb⟩
set_option maxRecDepth 100000 in
set_option maxHeartbeats 8000000 in
theorem tiesWitness_yes (k : Nat) (a r : Option Addr) (cap cq m q : Nat) (ts : List TieD) (L P : List Int) (p z : Nat) (w : World) (S A C : Bool) (E1 E2 E3 : Int) (hp : p < k) (hz : z < k) (HQ : Hid (q ≤ 100)) (HML : Hid (m = ts.length)) (hm9 : m ≤ 600) (HTS : Hid (TiesAt w a ts)) (HPR : Hid (IntsAt w r P)) (HV : Hid (∀ t ∈ ts, t.kind = 2 ∧ atI L t.a = atI L t.b ∨ t.kind = 1))
    (HSA : Hid (∀ W, Calls Tryz.prog 7 #[] W fun e w' => e = .returned (.bool true) ∧ Below W.heap.size W w'))
    (HF : Hid (∀ W, Calls Tryz.prog 8 #[.agg #[.int .i64 k, .slice a m cap]] W fun e w' => e = .returned (.bool true) ∧ Below W.heap.size W w'))
    (HC : Hid (∀ W, Below w.heap.size w W → Calls Tryz.prog 22 #[.agg #[.int .i64 k, .slice a m cap]] W fun e w' => e = .returned (.int .i64 0) ∧ Below W.heap.size W w'))
    (HS : Hid (∀ W, Below w.heap.size w W → Calls Tryz.prog 23 #[.agg #[.int .i64 k, .slice a m cap], .int .i64 p, .int .i64 z] W fun e w' => e = .returned (.tuple #[.bool S, .int .i64 0]) ∧ Below W.heap.size W w'))
    (HA : Hid (∀ W, Below w.heap.size w W → Calls Tryz.prog 24 #[.agg #[.int .i64 k, .slice a m cap], .int .i64 p, .int .i64 z] W fun e w' => e = .returned (.tuple #[.bool A, .int .i64 0]) ∧ Below W.heap.size W w'))
    (HCH : Hid (∀ W, Below w.heap.size w W → Calls Tryz.prog 13 #[.agg #[.int .i64 k, .slice a m cap], .int .i64 p, .int .i64 z] W fun e w' => ∃ u, e = .returned (.tuple #[u, .bool S, .int .i64 0]) ∧ (S = true → LstA (fun l => chnF ts l p z 0 = 0) u w') ∧ Below W.heap.size W w'))
    (HWY : Hid (∀ W, Below w.heap.size w W → Calls Tryz.prog 14 #[.agg #[.int .i64 k, .slice a m cap], .int .i64 p, .int .i64 z] W fun e w' => ∃ u, e = .returned (.tuple #[u, .bool A, .int .i64 0]) ∧ (A = true → LstA (fun l => chnF ts l p z 1 = 0) u w') ∧ Below W.heap.size W w'))
    (HCL : Hid (∀ W, Below w.heap.size w W → Calls Tryz.prog 19 #[.agg #[.int .i64 k, .slice a m cap]] W fun e w' => ∃ u, e = .returned (.tuple #[u, .bool C, .int .i64 0]) ∧ (C = true → LstA (fun l => clashF k ts l = true) u w') ∧ Below W.heap.size W w'))
    (HCC : Hid (∀ W u, Below w.heap.size w W → LstA (fun l => chnF ts l p z 0 = 0) u W → Calls Tryz.prog 9 #[.agg #[.int .i64 k, .slice a m cap], .int .i64 p, .int .i64 z, u] W fun e w' => e = .returned (.int .i64 0) ∧ Below W.heap.size W w'))
    (HCW : Hid (∀ W u, Below w.heap.size w W → LstA (fun l => chnF ts l p z 1 = 0) u W → Calls Tryz.prog 11 #[.agg #[.int .i64 k, .slice a m cap], .int .i64 p, .int .i64 z, u] W fun e w' => e = .returned (.int .i64 0) ∧ Below W.heap.size W w'))
    (HCK : Hid (∀ W u, Below w.heap.size w W → LstA (fun l => clashF k ts l = true) u W → Calls Tryz.prog 17 #[.agg #[.int .i64 k, .slice a m cap], u] W fun e w' => e = .returned (.int .i64 0) ∧ Below W.heap.size W w'))
    (HD1 : Hid (∀ W, Below w.heap.size w W → Calls Tryz.prog 9 #[.agg #[.int .i64 k, .slice a m cap], .int .i64 p, .int .i64 z, .slice r q cq] W fun e w' => e = .returned (.int .i64 E1) ∧ Below W.heap.size W w'))
    (HD2 : Hid (∀ W, Below w.heap.size w W → Calls Tryz.prog 11 #[.agg #[.int .i64 k, .slice a m cap], .int .i64 p, .int .i64 z, .slice r q cq] W fun e w' => e = .returned (.int .i64 E2) ∧ Below W.heap.size W w'))
    (HD3 : Hid (∀ W, Below w.heap.size w W → Calls Tryz.prog 17 #[.agg #[.int .i64 k, .slice a m cap], .slice r q cq] W fun e w' => e = .returned (.int .i64 E3) ∧ Below W.heap.size W w'))
    (HE1 : Hid (S = true ∧ E1 = 0 ∨ E1 = 42)) (HE2 : Hid (A = true ∧ E2 = 0 ∨ E2 = 42)) (HE3 : Hid (C = true ∧ E3 = 0 ∨ E3 = 42))
    (HSM : Hid (∀ W t, t ∈ ts → Below w.heap.size w W → Calls Tryz.prog 23 #[.agg #[.int .i64 k, .slice a m cap], .int .i64 t.a, .int .i64 t.b] W fun e w' => e = .returned (.tuple #[.bool (atI L t.a == atI L t.b), .int .i64 0]) ∧ Below W.heap.size W w'))
    (HCB : Hid (C = ts.any (wrB L)))
    : Calls Tryz.prog 6 #[.agg #[.int .i64 k, .slice a m cap], .int .i64 p, .int .i64 z, .slice r q cq] w fun e w' => e = .returned (.bool true) ∧ Below w.heap.size w w' := by
  have FB := Lib.hid (FA.new w [.int .i64 k, .slice a m cap])
  have t1 : decide ((k : Int) ≤ (p : Int)) = false := decide_eq_false (by omega)
  have t2 : decide (k ≤ p) = false := decide_eq_false (by omega)
  have t3 : decide ((k : Int) ≤ (z : Int)) = false := decide_eq_false (by omega)
  have t4 : decide (k ≤ z) = false := decide_eq_false (by omega)
  have t5 : decide ((p : Int) < 0) = false := decide_eq_false (by omega)
  have t6 : decide ((z : Int) < 0) = false := decide_eq_false (by omega)
  have t7 : decide ((100 : Int) < (q : Int)) = false := decide_eq_false (by have := HQ.out; omega)
  have t8 : decide (100 < q) = false := decide_eq_false (by have := HQ.out; omega)
  clear hp hz
  go_enter Tryz.func6, Tryz.ntmps6
  go_upto_region 5 with (first | (go_at_call 7; refine (HSA.out _).mono ?_; rintro e w1 ⟨rfl, hb⟩; clear HSA; replace FB := Lib.hid (FB.out.below hb); clear hb; have c0 := FB.out.1.cell (i := 0) rfl; have c1 := FB.out.1.cell (i := 1) rfl) | (go_at_call 8; refine (HF.out _).mono ?_; rintro e w2 ⟨rfl, hb⟩; clear HF c0 c1; replace FB := Lib.hid (FB.out.below hb); clear hb; have c0 := FB.out.1.cell (i := 0) rfl; have c1 := FB.out.1.cell (i := 1) rfl) | (go_at_call 22; refine (HC.out _ FB.out.2).mono ?_; rintro e w3 ⟨rfl, hb⟩; clear HC c0 c1; replace FB := Lib.hid (FB.out.below hb); clear hb; have c0 := FB.out.1.cell (i := 0) rfl; have c1 := FB.out.1.cell (i := 1) rfl))
  clear t1 t2 t3 t4 t5 t6 t7 t8
  go_upto_region 6 with (first | (go_at_call 23; go_loud (refine (HS.out _ FB.out.2).mono ?_; rintro e w4 ⟨rfl, hb⟩; clear HS c0 c1; replace FB := Lib.hid (FB.out.below hb); clear hb)))
  have c0 := FB.out.1.cell (i := 0) rfl
  have c1 := FB.out.1.cell (i := 1) rfl
  go_upto_region 7 with (first | (go_at_call 24; go_loud (refine (HA.out _ FB.out.2).mono ?_; rintro e w5 ⟨rfl, hb⟩; clear HA c0 c1; replace FB := Lib.hid (FB.out.below hb); clear hb)))
  have c0 := FB.out.1.cell (i := 0) rfl
  have c1 := FB.out.1.cell (i := 1) rfl
  go_upto_region 8 with (first | (go_at_call 13; go_loud (refine (HCH.out _ FB.out.2).mono ?_; rintro e w6 ⟨uc, rfl, hu, hb⟩; clear HCH c0 c1; replace FB := Lib.hid (FB.out.below hb); have HU1 := Lib.hid hu; clear hb hu)))
  have c0 := FB.out.1.cell (i := 0) rfl
  have c1 := FB.out.1.cell (i := 1) rfl
  go_upto_region 9 with (first | (go_at_call 14; go_loud (refine (HWY.out _ FB.out.2).mono ?_; rintro e w7 ⟨uw, rfl, hu, hb⟩; clear HWY c0 c1; replace FB := Lib.hid (FB.out.below hb); replace HU1 : Hid (S = true → LstA (fun l => chnF ts l p z 0 = 0) uc w7) := Lib.hid (fun h => (HU1.out h).below hb); have HU2 := Lib.hid hu; clear hb hu)))
  have c0 := FB.out.1.cell (i := 0) rfl
  have c1 := FB.out.1.cell (i := 1) rfl
  go_upto_region 10 with (first | (go_at_call 19; go_loud (refine (HCL.out _ FB.out.2).mono ?_; rintro e w8 ⟨uk, rfl, hu, hb⟩; clear HCL c0 c1; replace FB := Lib.hid (FB.out.below hb); replace HU1 : Hid (S = true → LstA (fun l => chnF ts l p z 0 = 0) uc w8) := Lib.hid (fun h => (HU1.out h).below hb); replace HU2 : Hid (A = true → LstA (fun l => chnF ts l p z 1 = 0) uw w8) := Lib.hid (fun h => (HU2.out h).below hb); have HU3 := Lib.hid hu; clear hb hu)))
  go_upto_region 12 with (fail)
  go_cut [154] (fun s154 wx => s154 = .bool false ∧ FA w wx [.int .i64 k, .slice a m cap])
  case first =>
    clear HSM HCB HE1 HE2 HE3 HD1 HD2 HD3 HV HTS HPR
    have c0 := FB.out.1.cell (i := 0) rfl
    have c1 := FB.out.1.cell (i := 1) rfl
    cases S <;> cases A <;> cases C
    all_goals (as_aux_lemma => (
      (first | (have HX1 := Lib.hid (HU1.out (by trivial))) | skip)
      (first | (have HX2 := Lib.hid (HU2.out (by trivial))) | skip)
      (first | (have HX3 := Lib.hid (HU3.out (by trivial))) | skip)
      clear HU1 HU2 HU3
      go_wp2_with (first
        | (go_at_call 9; refine (HCC.out _ _ FB.out.2 HX1.out).mono ?_; rintro e w9 ⟨rfl, hb⟩; clear c0 c1 HCC; replace FB := Lib.hid (FB.out.below hb); (first | replace HX2 := Lib.hid (HX2.out.below hb) | skip); (first | replace HX3 := Lib.hid (HX3.out.below hb) | skip); clear hb; have c0 := FB.out.1.cell (i := 0) rfl; have c1 := FB.out.1.cell (i := 1) rfl)
        | (go_at_call 11; refine (HCW.out _ _ FB.out.2 HX2.out).mono ?_; rintro e w10 ⟨rfl, hb⟩; clear c0 c1 HCW; replace FB := Lib.hid (FB.out.below hb); (first | replace HX3 := Lib.hid (HX3.out.below hb) | skip); clear hb; have c0 := FB.out.1.cell (i := 0) rfl; have c1 := FB.out.1.cell (i := 1) rfl)
        | (go_at_call 17; refine (HCK.out _ _ FB.out.2 HX3.out).mono ?_; rintro e w11 ⟨rfl, hb⟩; clear c0 c1 HCK; replace FB := Lib.hid (FB.out.below hb); clear hb; have c0 := FB.out.1.cell (i := 0) rfl; have c1 := FB.out.1.cell (i := 1) rfl))
      go_meet
      exact ⟨rfl, FB.out⟩))
  case rest =>
  obtain ⟨rfl, hf⟩ := hcut
  clear HU1 HU2 HU3 HCC HCW HCK FB
  have FB := Lib.hid hf
  clear hf
  go_upto_region 14 with (fail)
  go_cut [186] (fun s186 wx => s186 = .bool false ∧ FA w wx [.int .i64 k, .slice a m cap])
  case first =>
    clear HSM HCB HV HTS HPR
    have c0 := FB.out.1.cell (i := 0) rfl
    have c1 := FB.out.1.cell (i := 1) rfl
    rcases HE1.out with ⟨rfl, rfl⟩ | rfl <;> rcases HE2.out with ⟨rfl, rfl⟩ | rfl <;> rcases HE3.out with ⟨rfl, rfl⟩ | rfl
    all_goals (
      clear HE1 HE2 HE3
      (try cases S) <;> (try cases A) <;> (try cases C)
      all_goals (as_aux_lemma => (
        go_wp2_with (first
          | (go_at_call 9; refine (HD1.out _ FB.out.2).mono ?_; rintro e w9 ⟨rfl, hb⟩; clear c0 c1 HD1; replace FB := Lib.hid (FB.out.below hb); clear hb; have c0 := FB.out.1.cell (i := 0) rfl; have c1 := FB.out.1.cell (i := 1) rfl)
          | (go_at_call 11; refine (HD2.out _ FB.out.2).mono ?_; rintro e w10 ⟨rfl, hb⟩; clear c0 c1 HD2; replace FB := Lib.hid (FB.out.below hb); clear hb; have c0 := FB.out.1.cell (i := 0) rfl; have c1 := FB.out.1.cell (i := 1) rfl)
          | (go_at_call 17; refine (HD3.out _ FB.out.2).mono ?_; rintro e w11 ⟨rfl, hb⟩; clear c0 c1 HD3; replace FB := Lib.hid (FB.out.below hb); clear hb; have c0 := FB.out.1.cell (i := 0) rfl; have c1 := FB.out.1.cell (i := 1) rfl))
        go_meet
        exact ⟨rfl, FB.out⟩)))
  case rest =>
  obtain ⟨rfl, hf⟩ := hcut
  clear HD1 HD2 HD3 HE1 HE2 HE3 FB
  have FB := Lib.hid hf
  clear hf
  have HN0 : Hid (false = (ts.take 0).any (wrB L)) := rfl
  go_wp2_with fail
  go_loopg [22, 23, 24, 25, 26] m (fun gk t22 t23 t24 t25 t26 wr => ∃ (j : Nat) (F : Bool), j + gk = m ∧ t22 = .bool F ∧ t23 = .int .i64 j ∧ Hid (F = (ts.take j).any (wrB L)) ∧ Hid (FA w wr [.int .i64 k, .slice a m cap]))
  case atStart => exact ⟨0, false, by omega, rfl, rfl, HN0, FB⟩
  case round =>
    clear HN0 FB
    obtain ⟨j, F, hjg, rfl, rfl, HN, FB⟩ := hrel
    have c0 := FB.out.1.cell (i := 0) rfl
    have c1 := FB.out.1.cell (i := 1) rfl
    by_cases hlt : j < m
    · have hjl : j < ts.length := by rw [← HML.out]; exact hlt
      obtain ⟨t, ht⟩ : ∃ t, t = ts[j] := ⟨_, rfl⟩
      have htm : t ∈ ts := by rw [ht]; exact List.getElem_mem hjl
      have HST : Hid ((ts.take (j + 1)).any (wrB L) = (F || wrB L t)) := by rw [HN.out, ht]; exact any_step hjl
      obtain ⟨lb, lo, rfl, hlb, x0, x1, x2, x3, x4⟩ := (HTS.out.below FB.out.2).at hjl
      rw [← ht] at x0 x1 x2 x3 x4
      have hkd := HV.out t htm
      obtain ⟨I, hI⟩ : ∃ I, I = (atI L t.a == atI L t.b) := ⟨_, rfl⟩
      have HSJ : Hid (∀ W, Below w.heap.size w W → Calls Tryz.prog 23 #[.agg #[.int .i64 k, .slice (some ⟨lb, lo, none⟩) m cap], .int .i64 t.a, .int .i64 t.b] W fun e w' => e = .returned (.tuple #[.bool I, .int .i64 0]) ∧ Below W.heap.size W w') := fun W hb => by rw [hI]; exact HSM.out W t htm hb
      have hwr : wrB L t = (t.kind == 1 && I) := by rw [hI]; rfl
      rw [hwr] at HST
      have hkd2 : t.kind = 2 ∧ I = true ∨ t.kind = 1 := hkd.imp (fun h => ⟨h.1, by rw [hI, h.2]; simp⟩) id
      clear hjl ht htm HN hkd hI hwr HSM HTS
      obtain ⟨za, zb, zk, zs, zr⟩ := t
      simp only at x0 x1 x2 x3 x4 hkd2 HSJ HST
      go_upto_region 21 with (fail)
      refine named (fun V => Hid (Blk V wr.heap.size [.int .i64 za, .int .i64 zb, .int .i64 zk, .int .i64 zs, .int .i64 zr] 43) ∧ Hid (FA w V [.int .i64 k, .slice (some ⟨lb, lo, none⟩) m cap])) ⟨Blk.new wr [.int .i64 za, .int .i64 zb, .int .i64 zk, .int .i64 zs, .int .i64 zr] 43, FB.out.below ((Below.refl _ _).alloc (Nat.le_refl _) _)⟩ ?_
      clear FB c0 c1 x0 x1 x2 x3 x4
      rintro V ⟨HT6, FB⟩
      generalize hb6 : wr.heap.size = b6 at HT6 ⊢
      clear hb6 hlb
      have c0 := FB.out.1.cell (i := 0) rfl
      have c1 := FB.out.1.cell (i := 1) rfl
      have d0 := HT6.out.cell (i := 0) rfl
      have d1 := HT6.out.cell (i := 1) rfl
      go_upto_region 22 with (first | (go_at_call 23; go_loud (refine (HSJ.out _ FB.out.2).mono ?_; rintro e w4 ⟨rfl, hb⟩; clear HSJ c0 c1 d0 d1; replace FB := Lib.hid (FB.out.below hb); replace HT6 := Lib.hid (HT6.out.below hb); clear hb)))
      have d2 := HT6.out.cell (i := 2) rfl
      rcases hkd2 with ⟨rfl, rfl⟩ | rfl
      · cases F
        all_goals (
          go_wp2_with fail
          go_roundg (gk - 1)
          case measure => omega
          case rel => exact ⟨j + 1, _, by omega, rfl, by simp, by rw [Hid, HST.out]; rfl, FB⟩)
      · cases F <;> cases I
        all_goals (
          go_wp2_with fail
          go_roundg (gk - 1)
          case measure => omega
          case rel => exact ⟨j + 1, _, by omega, rfl, by simp, by rw [Hid, HST.out]; rfl, FB⟩)
    · have HE : Hid (F = C) := by
        rw [Hid, HN.out, HCB.out, List.take_of_length_le (by rw [← HML.out]; omega)]
      have h := HE.out
      subst h
      clear HE
      cases F
      all_goals (
        go_wp2_with fail
        go_ret
        exact ⟨rfl, FB.out.2⟩)
end Go.Proofs.YtjcafjffmiknmaaGreat
