/- Layer 4: Apart of the program. -/
import Derived.Test.YtlllmoafhfjbbaaGreatUe
namespace Go.Proofs.YtlllmoafhfjbbaaGreat
set_option linter.unusedSimpArgs false
set_option linter.unusedVariables false
open Go Go.RowKit

def apF (bw bx byy : Nat) : Value := .func (.func 61) #[] #[.pointer (some ⟨bw, 0, none⟩), .pointer (some ⟨bx, 0, none⟩), .pointer (some ⟨byy, 0, none⟩)]
theorem any_no {l : List Int} {ts : List TieD} {x y : Int} {k : Nat} (hk : k < ts.length) (h : (ts.take k).any (cutB l x y) = false) (h2 : cutB l x y ts[k] = false) : (ts.take (k + 1)).any (cutB l x y) = false := by
  rw [← List.take_append_getElem hk, List.any_append, h]; simp [h2]
theorem any_yes {l : List Int} {ts : List TieD} {x y : Int} {k : Nat} (hk : k < ts.length) (h2 : cutB l x y ts[k] = true) : apB l ts x y = true := by
  unfold apB
  rw [List.any_eq_true]
  exact ⟨_, List.getElem_mem hk, h2⟩
set_option maxRecDepth 100000 in
set_option maxHeartbeats 4000000 in
theorem apIx_any (a : Option Addr) (cap : Nat) (ts : List TieD) (bw bx byy g k x y : Nat) (l : List Int) (w : World) (hl : ts.length ≤ 100000) (hs : TiesAt w a ts) (hlk : l.length = k) (hk : k ≤ 32) (hx : x < k) (hy : y < k) (ht : ∀ t ∈ ts, tieB t k = true) (h : ApAt w bw bx byy g k x y l) :
    Calls Tryz.prog 70 #[.slice a ts.length cap, apF bw bx byy] w fun e w' => (∃ r : Int, e = .returned (.int .i64 r) ∧ decide (0 ≤ r) = apB l ts x y) ∧ Below w.heap.size w w' := by
  have HS := Lib.hid hs
  have HA := Lib.hid h
  have HF : Hid (∀ W t, t ∈ ts → Below w.heap.size w W → Calls Tryz.prog 61 #[.agg #[.int .i64 t.a, .int .i64 t.b, .int .i64 t.kind, .int .i64 t.str, .int .i64 t.src], .pointer (some ⟨bw, 0, none⟩), .pointer (some ⟨bx, 0, none⟩), .pointer (some ⟨byy, 0, none⟩)] W fun e w' => e = .returned (.bool (cutB l x y t)) ∧ Below W.heap.size W w') := fun W t hm hb => apFn_any t bw bx byy g k x y l W hlk hk hx hy (ht t hm) (h.below hb)
  obtain ⟨m, hm⟩ : ∃ m, m = ts.length := ⟨_, rfl⟩
  rw [← hm] at hl ⊢
  have HM := Lib.hid hm
  clear hs hm h hlk hk hx hy ht HA
  go_enter Tryz.func70, Tryz.ntmps70
  simp only [apF]
  go_wp2_with fail
  go_loopw [8] (fun ti wr => ∃ j : Nat, j ≤ m ∧ ti = .int .i64 j ∧ Hid ((ts.take j).any (cutB l x y) = false) ∧ Hid (Below w.heap.size w wr)) (fun ti _ => m - (intOf ti).toNat)
  case atStart => exact ⟨0, by omega, rfl, by simp [Hid], Below.refl _ _⟩
  case round =>
    obtain ⟨j, hj, rfl, HN, HB⟩ := hrel
    by_cases hlt : j < m
    · have hkl : j < ts.length := by rw [← HM.out]; exact hlt
      obtain ⟨lb, lo, rfl, hlb, c0, c1, c2, c3, c4⟩ := (HS.out.below HB.out).at hkl
      have HC := Lib.hid (HF.out wr ts[j] (List.getElem_mem hkl) HB.out)
      have HNO := Lib.hid (any_no hkl HN.out)
      have HYES := Lib.hid (any_yes (l := l) (x := x) (y := y) hkl)
      obtain ⟨z, hz⟩ : ∃ z, z = ts[j] := ⟨_, rfl⟩
      rw [← hz] at HC HNO HYES c0 c1 c2 c3 c4
      obtain ⟨v, hv⟩ : ∃ v, v = cutB l x y z := ⟨_, rfl⟩
      rw [← hv] at HC HNO HYES
      obtain ⟨za, zb, zk, zs, zr⟩ := z
      simp only at HC c0 c1 c2 c3 c4
      clear hkl hz hv HF HN
      have hb0 := HB.out.size
      cases v with
      | true =>
        go_wp2_with (first | (go_at_call 61; refine HC.out.mono ?_; rintro e w5 ⟨rfl, hb5⟩; clear HC))
        go_ret
        exact ⟨⟨j, rfl, by rw [HYES.out (by trivial)]; simp⟩, HB.out.trans (hb5.mono hb0)⟩
      | false =>
        go_wp2_with (first | (go_at_call 61; refine HC.out.mono ?_; rintro e w5 ⟨rfl, hb5⟩; clear HC))
        exact ⟨⟨j + 1, by omega, by simp, HNO.out (by trivial), HB.out.trans (hb5.mono hb0)⟩, by simp [intOf]; omega⟩
    · have HE : Hid (apB l ts x y = false) := by
        have := HN.out
        rwa [List.take_of_length_le (by rw [← HM.out]; omega)] at this
      clear HF HN
      go_wp2_with fail
      go_ret
      exact ⟨⟨_, rfl, by rw [HE.out]; rfl⟩, HB.out⟩
set_option maxRecDepth 100000 in
set_option maxHeartbeats 2000000 in
theorem apHas_any (a : Option Addr) (cap : Nat) (ts : List TieD) (bw bx byy g k x y : Nat) (l : List Int) (w : World) (hl : ts.length ≤ 100000) (hs : TiesAt w a ts) (hlk : l.length = k) (hk : k ≤ 32) (hx : x < k) (hy : y < k) (ht : ∀ t ∈ ts, tieB t k = true) (h : ApAt w bw bx byy g k x y l) :
    Calls Tryz.prog 60 #[.slice a ts.length cap, apF bw bx byy] w fun e w' => e = .returned (.bool (apB l ts x y)) ∧ Below w.heap.size w w' := by
  have HX := Lib.hid (apIx_any a cap ts bw bx byy g k x y l w hl hs hlk hk hx hy ht h)
  obtain ⟨r0, hr0⟩ : ∃ r0, r0 = apB l ts x y := ⟨_, rfl⟩
  rw [← hr0] at HX ⊢
  obtain ⟨m, hm⟩ : ∃ m, m = ts.length := ⟨_, rfl⟩
  rw [← hm] at HX ⊢
  clear hs h hm hr0 ht hlk hk hx hy hl
  go_enter Tryz.func60, Tryz.ntmps60
  simp only [apF] at HX ⊢
  go_wp2_with (first | (go_at_call 70; refine HX.out.mono ?_; rintro e w5 ⟨⟨r, rfl, hr⟩, hb5⟩; clear HX; have HR := Lib.hid hr; have HB5 := Lib.hid hb5; clear hr hb5))
  go_ret
  exact ⟨by rw [← HR.out]; rfl, HB5.out⟩
set_option maxRecDepth 100000 in
set_option maxHeartbeats 2000000 in
theorem apart_any (a : Option Addr) (cap : Nat) (ts : List TieD) (g k x y : Nat) (l : List Int) (w : World) (hl : ts.length ≤ 100000) (hs : TiesAt w a ts) (hlk : l.length = k) (hk : k ≤ 32) (hx : x < k) (hy : y < k) (ht : ∀ t ∈ ts, tieB t k = true) (h : NB w g l) :
    Calls Tryz.prog 38 #[wkV k a ts.length cap g k, .int .i64 x, .int .i64 y] w fun e w' => e = .returned (.bool (apB l ts x y)) ∧ Below w.heap.size w w' := by
  have HX : Hid (∀ W bw bx byy, Below w.heap.size w W → ApAt W bw bx byy g k x y l → Calls Tryz.prog 60 #[.slice a ts.length cap, apF bw bx byy] W fun e w' => e = .returned (.bool (apB l ts x y)) ∧ Below W.heap.size W w') := fun W bw bx byy hb hA => apHas_any a cap ts bw bx byy g k x y l W hl (hs.below hb) hlk hk hx hy ht hA
  have HG := Lib.hid h
  obtain ⟨r0, hr0⟩ : ∃ r0, r0 = apB l ts x y := ⟨_, rfl⟩
  rw [← hr0] at HX ⊢
  obtain ⟨m, hm⟩ : ∃ m, m = ts.length := ⟨_, rfl⟩
  rw [← hm] at HX ⊢
  clear hs h hm hr0 ht hlk hk hx hy hl
  have hmf : ∀ (fn : Fn) (first cap : Array Value) (w : World), (Instr.makeFunc fn first cap).run Tryz.prog w = .ok (.func fn first cap) w := fun _ _ _ _ => rfl
  go_enter Tryz.func38, Tryz.ntmps38
  simp only [wkV, apF] at HX ⊢
  go_upto_region 1 with (fail)
  refine named (fun V => Below w.heap.size w V ∧ Blk V w.heap.size [.int .i64 k, .slice a m cap, .slice (some ⟨g, 0, none⟩) k k] 63 ∧ Blk V (w.heap.size + 1) [.int .i64 x] 3 ∧ Blk V (w.heap.size + 1 + 1) [.int .i64 y] 3) ?_ ?_
  · have b1 := Blk.new w [.int .i64 k, .slice a m cap, .slice (some ⟨g, 0, none⟩) k k] 63
    have b2 := Blk.new (w.alloc (.cells #[.int .i64 k, .slice a m cap, .slice (some ⟨g, 0, none⟩) k k] 63)) [.int .i64 x] 3
    have b3 := Blk.new ((w.alloc (.cells #[.int .i64 k, .slice a m cap, .slice (some ⟨g, 0, none⟩) k k] 63)).alloc (.cells #[.int .i64 x] 3)) [.int .i64 y] 3
    refine ⟨(((Below.refl _ _).alloc (Nat.le_refl _) _).alloc (by simp) _).alloc (by simp; omega) _, (b1.block (Below.heap_alloc _ _ _ (by simp))).block (Below.heap_alloc _ _ _ (by simp; omega)), ?_, ?_⟩
    · have := b2.block (Below.heap_alloc _ (.cells #[.int .i64 y] 3) _ b2.lt)
      simpa using this
    · simpa using b3
  rintro W0 ⟨FB, K1, K2, K3⟩
  generalize hb1 : w.heap.size = b1 at K1 K2 K3 ⊢
  generalize hb2 : b1 + 1 = b2 at K2 K3 ⊢
  generalize hb3 : b2 + 1 = b3 at K3 ⊢
  have c1 := K1.cell (i := 1) rfl
  have HAP : Hid (ApAt W0 b1 b2 b3 g k x y l) := ⟨⟨_, _, _, _, K1⟩, K2, K3, HG.out.block (FB.block _ HG.out.lt)⟩
  replace FB := Lib.hid FB
  have L1 := Lib.hid hb1
  clear K1 K2 K3 hb1 hb2 hb3
  go_wp2_with (first | (go_at_call 60; go_loud (refine (HX.out _ _ _ _ FB.out HAP.out).mono ?_; rintro e w5 ⟨rfl, hb5⟩); clear HX; have HB5 := Lib.hid hb5; clear hb5))
  go_ret
  exact ⟨rfl, FB.out.trans (HB5.out.mono FB.out.size)⟩
set_option maxRecDepth 100000 in
set_option maxHeartbeats 2000000 in
theorem tApart_any (n : Int) (a : Option Addr) (cap : Nat) (ts : List TieD) (x y : Int) (w : World) (hl : ts.length ≤ 9223372036854775807) (hs : TiesAt w a ts) :
    Calls Tryz.prog 15 #[gV n a ts.length cap, .int .i64 x, .int .i64 y] w fun e w' => e = .returned (.tuple #[.bool (apartR n ts x y), .int .i64 (errA n ts x y)]) ∧ Below w.heap.size w w' := by
  have HC : Hid (∀ W, Below w.heap.size w W → Calls Tryz.prog 35 #[gV n a ts.length cap, .int .i64 x, .int .i64 y] W fun e w' => e = .returned (.int .i64 (errA n ts x y)) ∧ Below W.heap.size W w') := fun W hb => tPair_any n a cap ts x y W hl (hs.below hb)
  unfold apartR
  rcases errA_split n ts x y with ⟨he, hok, k, p, q, rfl, hk, rfl, rfl, hp, hq⟩ | he
  · unfold okG at hok
    simp only [Bool.and_eq_true, decide_eq_true_eq] at hok
    have hv : ∀ t ∈ ts, tieB t k = true := fun t ht => List.all_eq_true.1 hok.2 t ht
    have HBE : Hid (∀ W, Below w.heap.size w W → Calls Tryz.prog 32 #[gV k a ts.length cap] W fun e w' => ∃ g, e = .returned (wkV k a ts.length cap g k) ∧ W.heap.size ≤ g ∧ NB w' g (grpL k ts) ∧ Below W.heap.size W w') := fun W hb => begin_any k a cap ts W hk hok.1.2 hv (hs.below hb)
    have HJO : Hid (∀ W g, Below w.heap.size w W → NB W g (grpL k ts) → Calls Tryz.prog 38 #[wkV k a ts.length cap g k, .int .i64 p, .int .i64 q] W fun e w' => e = .returned (.bool (apB (grpL k ts) ts p q)) ∧ Below W.heap.size W w') := fun W g hb hW => apart_any a cap ts g k p q (grpL k ts) W (by omega) (hs.below hb) (grpL_len _ _) hk hp hq hv hW
    rw [he] at HC ⊢
    simp only [if_true, Int.toNat_natCast]
    obtain ⟨r, hr⟩ : ∃ r, r = apB (grpL k ts) ts p q := ⟨_, rfl⟩
    rw [← hr] at HJO ⊢
    obtain ⟨m, hm⟩ : ∃ m, m = ts.length := ⟨_, rfl⟩
    rw [← hm] at hl HC HBE HJO ⊢
    clear hm hs he hok hr hp hq hv
    go_enter Tryz.func15, Tryz.ntmps15
    simp only [gV, wkV] at HC HBE HJO ⊢
    go_wp2_with (first | (go_at_call 35; refine (HC.out _ ((Below.refl _ _).alloc (Nat.le_refl _) _)).mono ?_; rintro e w1 ⟨rfl, hb⟩; clear HC; have c0 := ((Blk.new w [.int .i64 k, .slice a m cap] 24).below hb).cell (i := 0) rfl; have c1 := ((Blk.new w [.int .i64 k, .slice a m cap] 24).below hb).cell (i := 1) rfl; have HB1 : Hid (Below w.heap.size w w1) := ((Below.refl _ _).alloc (Nat.le_refl _) _).trans (hb.mono (by simp)); clear hb) | (go_at_call 32; refine (HBE.out _ HB1.out).mono ?_; rintro e w2 ⟨g, rfl, hg1, hg2, hb⟩; clear HBE; have HG2 := Lib.hid hg2; have HB2 := Lib.hid (HB1.out.trans (hb.mono HB1.out.size)); clear hb hg1 hg2) | (go_at_call 38; refine (HJO.out _ _ HB2.out HG2.out).mono ?_; rintro e w3 ⟨rfl, hb⟩; clear HJO; have HB3 := Lib.hid (HB2.out.trans (hb.mono HB2.out.size)); clear hb))
    go_ret2
    exact ⟨rfl, HB3.out⟩
  · have hne : errA n ts x y ≠ 0 := by rcases he with he | he <;> rw [he] <;> decide
    rw [if_neg hne]
    obtain ⟨m, hm⟩ : ∃ m, m = ts.length := ⟨_, rfl⟩
    rw [← hm] at hl HC ⊢
    clear hm hs hne
    rcases he with he | he
    all_goals (
      rw [he] at HC ⊢
      clear he
      go_enter Tryz.func15, Tryz.ntmps15
      simp only [gV] at HC ⊢
      go_wp2_with (first | (go_at_call 35; refine (HC.out _ ((Below.refl _ _).alloc (Nat.le_refl _) _)).mono ?_; rintro e w1 ⟨rfl, hb⟩; clear HC; have HB1 : Hid (Below w.heap.size w w1) := ((Below.refl _ _).alloc (Nat.le_refl _) _).trans (hb.mono (by simp)); clear hb))
      go_ret2
      exact ⟨rfl, HB1.out⟩)
end Go.Proofs.YtlllmoafhfjbbaaGreat
