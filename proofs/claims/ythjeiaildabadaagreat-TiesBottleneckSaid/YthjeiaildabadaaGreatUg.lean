/- Layer 4: wrongCut of the program. -/
import Derived.Test.YthjeiaildabadaaGreatK7
namespace Go.Proofs.YthjeiaildabadaaGreat
set_option linter.unusedSimpArgs false
set_option linter.unusedVariables false
open Go Go.RowKit

/-- A cut between two nodes of one group. -/
def wrB (l : List Int) (t : TieD) : Bool := t.kind == 1 && atI l t.a == atI l t.b
def wrF (bw : Nat) : Value := .func (.func 88) #[] #[.pointer (some ⟨bw, 0, none⟩)]
/-- What the closure has: the graph in work. -/
structure WrAt (W : World) (bw g k : Nat) (l : List Int) : Prop where
  wk : ∃ (n : Int) (a : Option Addr) (m cap : Nat), Blk W bw [.int .i64 n, .slice a m cap, .slice (some ⟨g, 0, none⟩) k k] 65
  gr : NB W g l
theorem WrAt.below {W W' : World} {bw g k : Nat} {l : List Int} (h : WrAt W bw g k l) (hb : Below W.heap.size W W') : WrAt W' bw g k l := by
  obtain ⟨⟨n, a, m, cap, h1⟩, h4⟩ := h
  exact ⟨⟨n, a, m, cap, h1.below hb⟩, h4.block (hb.block _ h4.lt)⟩
def wrC (W : World) (bw g k b4 : Nat) (t : TieD) : Prop := W.cell? ⟨bw, 2, none⟩ = some (.slice (some ⟨g, 0, none⟩) k k) ∧ W.cell? ⟨b4, 0, none⟩ = some (.int .i64 t.a) ∧ W.cell? ⟨b4, 1, none⟩ = some (.int .i64 t.b) ∧ W.cell? ⟨b4, 2, none⟩ = some (.int .i64 t.kind) ∧ W.cell? ⟨b4, 3, none⟩ = some (.int .i64 t.str) ∧ W.cell? ⟨b4, 4, none⟩ = some (.int .i64 t.src)
theorem WrAt.cells {W : World} {bw g k b4 : Nat} {l : List Int} {t : TieD} (h : WrAt W bw g k l) (ht : TieAt W b4 t) : wrC W bw g k b4 t := by
  obtain ⟨⟨n, a, m, cap, h1⟩, h4⟩ := h
  exact ⟨h1.cell rfl, ht.c0, ht.c1, ht.c2, ht.c3, ht.c4⟩
set_option maxRecDepth 100000 in
set_option maxHeartbeats 4000000 in
theorem wrFn_any (t : TieD) (bw g k : Nat) (l : List Int) (w : World) (hlk : l.length = k) (hk : k ≤ 32) (ht : tieB t k = true) (h : WrAt w bw g k l) :
    Calls Tryz.prog 88 #[tieV t, .pointer (some ⟨bw, 0, none⟩)] w fun e w' => e = .returned (.bool (wrB l t)) ∧ Below w.heap.size w w' := by
  obtain ⟨ha0, ha1, hb0, hb1, ha2, hb2⟩ := tieB_in ht
  have hc : ((t.kind == 1) = false ∧ wrB l t = false) ∨ ((t.kind == 1) = true ∧ wrB l t = (atI l t.a == atI l t.b)) := by
    unfold wrB
    cases (t.kind == 1) <;> simp
  have HA := Lib.hid h
  have HCT : Hid (∀ W, Calls Tryz.prog 89 #[.agg #[.int .i64 t.a, .int .i64 t.b, .int .i64 t.kind, .int .i64 t.str, .int .i64 t.src]] W fun e w' => e = .returned (.bool (t.kind == 1)) ∧ Below W.heap.size W w') := fun W => tCut_any t W
  obtain ⟨ya, yb, yk, ys, yr⟩ := t
  simp only at ha0 ha1 hb0 hb1 ha2 hb2 hc HCT
  obtain ⟨xa, rfl⟩ := Int.eq_ofNat_of_zero_le ha0
  obtain ⟨xb, rfl⟩ := Int.eq_ofNat_of_zero_le hb0
  have HJO : Hid (∀ W (p q : Nat), NB W g l → p < k → q < k → Calls Tryz.prog 45 #[.slice (some ⟨g, 0, none⟩) k k, .int .i64 p, .int .i64 q] W fun e w' => e = .returned (.bool (atI l p == atI l q)) ∧ Below W.heap.size W w') := fun W p q hW hp hq => by
    have := joined_any g l p q W (by omega) hW (by omega) (by omega)
    rw [hlk] at this; exact this
  have HLT : Hid (xa < k ∧ xb < k) := ⟨by omega, by omega⟩
  clear h ht hlk hk ha0 ha1 hb0 hb1 ha2 hb2
  have HCC : Hid (∀ W, Below (w.heap.size + 1) (w.alloc (.cells #[.int .i64 xa, .int .i64 xb, .int .i64 yk, .int .i64 ys, .int .i64 yr] 54)) W → wrC W bw g k w.heap.size ⟨xa, xb, yk, ys, yr⟩ ∧ NB W g l) := fun W hb => by
    have hb' : Below (w.alloc (.cells #[.int .i64 xa, .int .i64 xb, .int .i64 yk, .int .i64 ys, .int .i64 yr] 54)).heap.size (w.alloc (.cells #[.int .i64 xa, .int .i64 xb, .int .i64 yk, .int .i64 ys, .int .i64 yr] 54)) W := by simpa using hb
    have h1 := (HA.out.below ((Below.refl _ _).alloc (Nat.le_refl _) (.cells #[.int .i64 xa, .int .i64 xb, .int .i64 yk, .int .i64 ys, .int .i64 yr] 54))).below hb'
    exact ⟨h1.cells ((TieAt.new w ⟨xa, xb, yk, ys, yr⟩ 54).below hb'), h1.gr⟩
  obtain ⟨_, _, _, _, _, _⟩ := (HCC.out _ (Below.refl _ _)).1
  rcases hc with ⟨q0, hr⟩ | ⟨q0, hr⟩
  all_goals (
    rw [hr]
    clear hr
    go_enter Tryz.func88, Tryz.ntmps88
    simp only [tieV]
    have HB : Hid (Below (w.heap.size + 1) (w.alloc (.cells #[.int .i64 xa, .int .i64 xb, .int .i64 yk, .int .i64 ys, .int .i64 yr] 54)) (w.alloc (.cells #[.int .i64 xa, .int .i64 xb, .int .i64 yk, .int .i64 ys, .int .i64 yr] 54))) := Below.refl _ _
    go_wp2_with (first | (go_at_call 89; refine (HCT.out _).mono ?_; rintro e w2 ⟨rfl, hb2⟩; replace HB := Lib.hid (HB.out.trans (hb2.mono (by have := HB.out.size; simp at this ⊢))); clear hb2; obtain ⟨_, _, _, _, _, _⟩ := (HCC.out _ HB.out).1; try simp only [q0]) | (go_at_call 45; refine (HJO.out _ _ _ (HCC.out _ HB.out).2 HLT.out.1 HLT.out.2).mono ?_; rintro e w3 ⟨rfl, hb3⟩; replace HB := Lib.hid (HB.out.trans (hb3.mono (by have := HB.out.size; simp at this; omega))); clear hb3))
    go_ret
    exact ⟨rfl, ((Below.refl _ _).alloc (Nat.le_refl _) _).trans (HB.out.mono (by omega))⟩)
/-- What wrongCut finds. -/
def WrR (l : List Int) (ts : List TieD) (r : Int) : Prop := (r = -1 ∧ ts.any (wrB l) = false) ∨ ∃ (j : Nat) (t : TieD), r = j ∧ ts[j]? = some t ∧ wrB l t = true ∧ (ts.take j).any (wrB l) = false
theorem wr_no {l : List Int} {ts : List TieD} {k : Nat} (hk : k < ts.length) (h : (ts.take k).any (wrB l) = false) (h2 : wrB l ts[k] = false) : (ts.take (k + 1)).any (wrB l) = false := by
  rw [← List.take_append_getElem hk, List.any_append, h]; simp [h2]
set_option maxRecDepth 100000 in
set_option maxHeartbeats 4000000 in
theorem wrIx_any (a : Option Addr) (cap : Nat) (ts : List TieD) (bw g k : Nat) (l : List Int) (w : World) (hl : ts.length ≤ 100000) (hs : TiesAt w a ts) (hlk : l.length = k) (hk : k ≤ 32) (ht : ∀ t ∈ ts, tieB t k = true) (h : WrAt w bw g k l) :
    Calls Tryz.prog 87 #[.slice a ts.length cap, wrF bw] w fun e w' => (∃ r : Int, e = .returned (.int .i64 r) ∧ WrR l ts r) ∧ Below w.heap.size w w' := by
  have HS := Lib.hid hs
  have HA := Lib.hid h
  have HF : Hid (∀ W t, t ∈ ts → Below w.heap.size w W → Calls Tryz.prog 88 #[.agg #[.int .i64 t.a, .int .i64 t.b, .int .i64 t.kind, .int .i64 t.str, .int .i64 t.src], .pointer (some ⟨bw, 0, none⟩)] W fun e w' => e = .returned (.bool (wrB l t)) ∧ Below W.heap.size W w') := fun W t hm hb => wrFn_any t bw g k l W hlk hk (ht t hm) (h.below hb)
  obtain ⟨m, hm⟩ : ∃ m, m = ts.length := ⟨_, rfl⟩
  rw [← hm] at hl ⊢
  have HM := Lib.hid hm
  clear hs hm h hlk hk ht HA
  go_enter Tryz.func87, Tryz.ntmps87
  simp only [wrF]
  go_wp2_with fail
  go_loopw [8] (fun ti wr => ∃ j : Nat, j ≤ m ∧ ti = .int .i64 j ∧ Hid ((ts.take j).any (wrB l) = false) ∧ Hid (Below w.heap.size w wr)) (fun ti _ => m - (intOf ti).toNat)
  case atStart => exact ⟨0, by omega, rfl, by simp [Hid], Below.refl _ _⟩
  case round =>
    obtain ⟨j, hj, rfl, HN, HB⟩ := hrel
    by_cases hlt : j < m
    · have hkl : j < ts.length := by rw [← HM.out]; exact hlt
      obtain ⟨lb, lo, rfl, hlb, c0, c1, c2, c3, c4⟩ := (HS.out.below HB.out).at hkl
      have HC := Lib.hid (HF.out wr ts[j] (List.getElem_mem hkl) HB.out)
      have HNO := Lib.hid (wr_no hkl HN.out)
      have HYES : Hid (wrB l ts[j] = true → WrR l ts (j : Int)) := fun h => .inr ⟨j, ts[j], rfl, List.getElem?_eq_getElem hkl, h, HN.out⟩
      obtain ⟨z, hz⟩ : ∃ z, z = ts[j] := ⟨_, rfl⟩
      rw [← hz] at HC HNO HYES c0 c1 c2 c3 c4
      obtain ⟨v, hv⟩ : ∃ v, v = wrB l z := ⟨_, rfl⟩
      rw [← hv] at HC HNO HYES
      obtain ⟨za, zb, zk, zs, zr⟩ := z
      simp only at HC c0 c1 c2 c3 c4
      clear hkl hz hv HF HN
      have hb0 := HB.out.size
      cases v with
      | true =>
        go_wp2_with (first | (go_at_call 88; refine HC.out.mono ?_; rintro e w5 ⟨rfl, hb5⟩; clear HC))
        go_ret
        exact ⟨⟨j, rfl, HYES.out (by trivial)⟩, HB.out.trans (hb5.mono hb0)⟩
      | false =>
        go_wp2_with (first | (go_at_call 88; refine HC.out.mono ?_; rintro e w5 ⟨rfl, hb5⟩; clear HC))
        exact ⟨⟨j + 1, by omega, by simp, HNO.out (by trivial), HB.out.trans (hb5.mono hb0)⟩, by simp [intOf]; omega⟩
    · have HE : Hid (WrR l ts (-1)) := by
        have := HN.out
        rw [List.take_of_length_le (by rw [← HM.out]; omega)] at this
        exact .inl ⟨rfl, this⟩
      clear HF HN
      go_wp2_with fail
      go_ret
      exact ⟨⟨_, rfl, HE.out⟩, HB.out⟩
set_option maxRecDepth 100000 in
set_option maxHeartbeats 2000000 in
theorem wrong_any (a : Option Addr) (cap : Nat) (ts : List TieD) (g k : Nat) (l : List Int) (w : World) (hl : ts.length ≤ 100000) (hs : TiesAt w a ts) (hlk : l.length = k) (hk : k ≤ 32) (ht : ∀ t ∈ ts, tieB t k = true) (h : NB w g l) :
    Calls Tryz.prog 62 #[wkV k a ts.length cap g k] w fun e w' => (∃ r : Int, e = .returned (.int .i64 r) ∧ WrR l ts r) ∧ Below w.heap.size w w' := by
  have HX : Hid (∀ W bw, Below w.heap.size w W → WrAt W bw g k l → Calls Tryz.prog 87 #[.slice a ts.length cap, wrF bw] W fun e w' => (∃ r : Int, e = .returned (.int .i64 r) ∧ WrR l ts r) ∧ Below W.heap.size W w') := fun W bw hb hA => wrIx_any a cap ts bw g k l W hl (hs.below hb) hlk hk ht hA
  have HG := Lib.hid h
  obtain ⟨m, hm⟩ : ∃ m, m = ts.length := ⟨_, rfl⟩
  rw [← hm] at HX ⊢
  clear hs h hm ht hlk hk hl
  have hmf : ∀ (fn : Fn) (first cap : Array Value) (w : World), (Instr.makeFunc fn first cap).run Tryz.prog w = .ok (.func fn first cap) w := fun _ _ _ _ => rfl
  go_enter Tryz.func62, Tryz.ntmps62
  simp only [wkV, wrF] at HX ⊢
  go_upto_region 1 with (fail)
  refine named (fun V => Below w.heap.size w V ∧ Blk V w.heap.size [.int .i64 k, .slice a m cap, .slice (some ⟨g, 0, none⟩) k k] 65) ?_ ?_
  · exact ⟨(Below.refl _ _).alloc (Nat.le_refl _) _, Blk.new w [.int .i64 k, .slice a m cap, .slice (some ⟨g, 0, none⟩) k k] 65⟩
  rintro W0 ⟨FB, K1⟩
  generalize hb1 : w.heap.size = b1 at K1 ⊢
  have c1 := K1.cell (i := 1) rfl
  have HAP : Hid (WrAt W0 b1 g k l) := ⟨⟨_, _, _, _, K1⟩, HG.out.block (FB.block _ HG.out.lt)⟩
  replace FB := Lib.hid FB
  have L1 := Lib.hid hb1
  clear K1 hb1
  go_wp2_with (first | (go_at_call 87; go_loud (refine (HX.out _ _ FB.out HAP.out).mono ?_; rintro e w5 ⟨⟨r, rfl, hr⟩, hb5⟩); clear HX; have HR := Lib.hid hr; have HB5 := Lib.hid hb5; clear hb5 hr))
  go_ret
  exact ⟨⟨r, rfl, HR.out⟩, FB.out.trans (HB5.out.mono FB.out.size)⟩
end Go.Proofs.YthjeiaildabadaaGreat
