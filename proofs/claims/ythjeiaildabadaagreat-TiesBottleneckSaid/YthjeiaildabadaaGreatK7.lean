/- Layer 4: Same and Apart of the program. / Layer 4: Apart of the program. -/
import Derived.Test.YthjeiaildabadaaGreatK3
/- Layer 4: Same and Apart of the program. -/
namespace Go.Proofs.YthjeiaildabadaaGreat
set_option linter.unusedSimpArgs false
set_option linter.unusedVariables false
open Go Go.RowKit

theorem errA_split (n : Int) (ts : List TieD) (x y : Int) : (errA n ts x y = 0 ∧ okG n ts = true ∧ (∃ k p q : Nat, n = k ∧ k ≤ 32 ∧ x = p ∧ y = q ∧ p < k ∧ q < k)) ∨ errA n ts x y = 1 ∨ errA n ts x y = 40 := by
  unfold errA
  cases hok : okG n ts with
  | false => exact .inr (.inr rfl)
  | true =>
    cases hx : (ftB x 0 (n - 1) && ftB y 0 (n - 1)) with
    | false => exact .inr (.inl rfl)
    | true =>
      refine .inl ⟨rfl, rfl, ?_⟩
      unfold okG at hok
      unfold ftB at hx hok
      simp only [Bool.and_eq_true, decide_eq_true_eq] at hx hok
      obtain ⟨k, rfl⟩ := Int.eq_ofNat_of_zero_le (by omega : 0 ≤ n)
      obtain ⟨p, rfl⟩ := Int.eq_ofNat_of_zero_le (by omega : 0 ≤ x)
      obtain ⟨q, rfl⟩ := Int.eq_ofNat_of_zero_le (by omega : 0 ≤ y)
      exact ⟨k, p, q, rfl, by omega, rfl, rfl, by omega, by omega⟩
def sameR (n : Int) (ts : List TieD) (x y : Int) : Bool := if errA n ts x y = 0 then atI (grpL n.toNat ts) x == atI (grpL n.toNat ts) y else false
def apartR (n : Int) (ts : List TieD) (x y : Int) : Bool := if errA n ts x y = 0 then apB (grpL n.toNat ts) ts x y else false
attribute [local go_sem] field_wk
set_option maxRecDepth 100000 in
set_option maxHeartbeats 2000000 in
theorem tSame_any (n : Int) (a : Option Addr) (cap : Nat) (ts : List TieD) (x y : Int) (w : World) (hl : ts.length ≤ 9223372036854775807) (hs : TiesAt w a ts) :
    Calls Tryz.prog 25 #[gV n a ts.length cap, .int .i64 x, .int .i64 y] w fun e w' => e = .returned (.tuple #[.bool (sameR n ts x y), .int .i64 (errA n ts x y)]) ∧ Below w.heap.size w w' := by
  have HC : Hid (∀ W, Below w.heap.size w W → Calls Tryz.prog 50 #[gV n a ts.length cap, .int .i64 x, .int .i64 y] W fun e w' => e = .returned (.int .i64 (errA n ts x y)) ∧ Below W.heap.size W w') := fun W hb => tPair_any n a cap ts x y W hl (hs.below hb)
  unfold sameR
  rcases errA_split n ts x y with ⟨he, hok, k, p, q, rfl, hk, rfl, rfl, hp, hq⟩ | he
  · have HBE : Hid (∀ W, Below w.heap.size w W → Calls Tryz.prog 43 #[gV k a ts.length cap] W fun e w' => ∃ g, e = .returned (wkV k a ts.length cap g k) ∧ W.heap.size ≤ g ∧ NB w' g (grpL k ts) ∧ Below W.heap.size W w') := fun W hb => by
      unfold okG at hok
      simp only [Bool.and_eq_true, decide_eq_true_eq] at hok
      exact begin_any k a cap ts W hk hok.1.2 (fun t ht => List.all_eq_true.1 hok.2 t ht) (hs.below hb)
    have HJO : Hid (∀ W g, NB W g (grpL k ts) → Calls Tryz.prog 45 #[.slice (some ⟨g, 0, none⟩) k k, .int .i64 p, .int .i64 q] W fun e w' => e = .returned (.bool (atI (grpL k ts) p == atI (grpL k ts) q)) ∧ Below W.heap.size W w') := fun W g hW => by
      have := joined_any g (grpL k ts) p q W (by rw [grpL_len]; omega) hW (by rw [grpL_len]; exact hp) (by rw [grpL_len]; exact hq)
      rw [grpL_len] at this; exact this
    rw [he] at HC ⊢
    simp only [if_true, Int.toNat_natCast]
    obtain ⟨r, hr⟩ : ∃ r, r = (atI (grpL k ts) p == atI (grpL k ts) q) := ⟨_, rfl⟩
    rw [← hr] at HJO ⊢
    obtain ⟨m, hm⟩ : ∃ m, m = ts.length := ⟨_, rfl⟩
    rw [← hm] at hl HC HBE ⊢
    clear hm hs he hok hr hp hq
    go_enter Tryz.func25, Tryz.ntmps25
    simp only [gV, wkV] at HC HBE ⊢
    go_wp2_with (first | (go_at_call 50; refine (HC.out _ ((Below.refl _ _).alloc (Nat.le_refl _) _)).mono ?_; rintro e w1 ⟨rfl, hb⟩; clear HC; have c0 := ((Blk.new w [.int .i64 k, .slice a m cap] 24).below hb).cell (i := 0) rfl; have c1 := ((Blk.new w [.int .i64 k, .slice a m cap] 24).below hb).cell (i := 1) rfl; have HB1 : Hid (Below w.heap.size w w1) := ((Below.refl _ _).alloc (Nat.le_refl _) _).trans (hb.mono (by simp)); clear hb) | (go_at_call 43; refine (HBE.out _ HB1.out).mono ?_; rintro e w2 ⟨g, rfl, hg1, hg2, hb⟩; clear HBE; have HG2 := Lib.hid hg2; have HB2 := Lib.hid (HB1.out.trans (hb.mono HB1.out.size)); clear hb hg1 hg2) | (go_at_call 45; refine (HJO.out _ _ HG2.out).mono ?_; rintro e w3 ⟨rfl, hb⟩; clear HJO; have HB3 := Lib.hid (HB2.out.trans (hb.mono HB2.out.size)); clear hb))
    go_ret2
    exact ⟨rfl, HB3.out⟩
  · have hne : errA n ts x y ≠ 0 := by rcases he with he | he <;> rw [he] <;> decide
    rw [if_neg hne]
    obtain ⟨m, hm⟩ : ∃ m, m = ts.length := ⟨_, rfl⟩
    rw [← hm] at hl HC ⊢
    clear hm hs hne
    rcases he with he | he
    all_goals (
      rw [he] at HC ⊢
      clear he
      go_enter Tryz.func25, Tryz.ntmps25
      simp only [gV] at HC ⊢
      go_wp2_with (first | (go_at_call 50; refine (HC.out _ ((Below.refl _ _).alloc (Nat.le_refl _) _)).mono ?_; rintro e w1 ⟨rfl, hb⟩; clear HC; have HB1 : Hid (Below w.heap.size w w1) := ((Below.refl _ _).alloc (Nat.le_refl _) _).trans (hb.mono (by simp)); clear hb))
      go_ret2
      exact ⟨rfl, HB1.out⟩)
/-! ### Apart -/
theorem cut_cases (l : List Int) (a b : Int) (t : TieD) : ((t.kind == 1) = false ∧ cutB l a b t = false) ∨ ((t.kind == 1) = true ∧ (
    ((atI l t.a == atI l a) = true ∧ (atI l t.b == atI l b) = true ∧ cutB l a b t = true) ∨
    ((atI l t.a == atI l a) = true ∧ (atI l t.b == atI l b) = false ∧ (atI l t.a == atI l b) = true ∧ (atI l t.b == atI l a) = true ∧ cutB l a b t = true) ∨
    ((atI l t.a == atI l a) = true ∧ (atI l t.b == atI l b) = false ∧ (atI l t.a == atI l b) = true ∧ (atI l t.b == atI l a) = false ∧ cutB l a b t = false) ∨
    ((atI l t.a == atI l a) = true ∧ (atI l t.b == atI l b) = false ∧ (atI l t.a == atI l b) = false ∧ cutB l a b t = false) ∨
    ((atI l t.a == atI l a) = false ∧ (atI l t.a == atI l b) = true ∧ (atI l t.b == atI l a) = true ∧ cutB l a b t = true) ∨
    ((atI l t.a == atI l a) = false ∧ (atI l t.a == atI l b) = true ∧ (atI l t.b == atI l a) = false ∧ cutB l a b t = false) ∨
    ((atI l t.a == atI l a) = false ∧ (atI l t.a == atI l b) = false ∧ cutB l a b t = false))) := by
  unfold cutB
  cases (t.kind == 1) <;> cases (atI l t.a == atI l a) <;> cases (atI l t.b == atI l b) <;> cases (atI l t.a == atI l b) <;> cases (atI l t.b == atI l a) <;> simp
/-- What the closure of apart has: the graph in work, both nodes. -/
structure ApAt (W : World) (bw bx byy g k x y : Nat) (l : List Int) : Prop where
  wk : ∃ (n : Int) (a : Option Addr) (m cap : Nat), Blk W bw [.int .i64 n, .slice a m cap, .slice (some ⟨g, 0, none⟩) k k] 65
  bx : Blk W bx [.int .i64 x] 3
  byy : Blk W byy [.int .i64 y] 3
  gr : NB W g l
theorem ApAt.below {W W' : World} {bw bx byy g k x y : Nat} {l : List Int} (h : ApAt W bw bx byy g k x y l) (hb : Below W.heap.size W W') : ApAt W' bw bx byy g k x y l := by
  obtain ⟨⟨n, a, m, cap, h1⟩, h2, h3, h4⟩ := h
  exact ⟨⟨n, a, m, cap, h1.below hb⟩, h2.below hb, h3.below hb, h4.block (hb.block _ h4.lt)⟩
/-- What the closure reads. -/
def apC (W : World) (bw bx byy g k x y b4 : Nat) (t : TieD) : Prop := W.cell? ⟨bw, 2, none⟩ = some (.slice (some ⟨g, 0, none⟩) k k) ∧ W.cell? ⟨bx, 0, none⟩ = some (.int .i64 x) ∧ W.cell? ⟨byy, 0, none⟩ = some (.int .i64 y) ∧ W.cell? ⟨b4, 0, none⟩ = some (.int .i64 t.a) ∧ W.cell? ⟨b4, 1, none⟩ = some (.int .i64 t.b) ∧ W.cell? ⟨b4, 2, none⟩ = some (.int .i64 t.kind) ∧ W.cell? ⟨b4, 3, none⟩ = some (.int .i64 t.str) ∧ W.cell? ⟨b4, 4, none⟩ = some (.int .i64 t.src)
theorem ApAt.cells {W : World} {bw bx byy g k x y b4 : Nat} {l : List Int} {t : TieD} (h : ApAt W bw bx byy g k x y l) (ht : TieAt W b4 t) : apC W bw bx byy g k x y b4 t := by
  obtain ⟨⟨n, a, m, cap, h1⟩, h2, h3, h4⟩ := h
  exact ⟨h1.cell rfl, h2.cell rfl, h3.cell rfl, ht.c0, ht.c1, ht.c2, ht.c3, ht.c4⟩
set_option maxRecDepth 100000 in
set_option maxHeartbeats 4000000 in
theorem apFn_any (t : TieD) (bw bx byy g k x y : Nat) (l : List Int) (w : World) (hlk : l.length = k) (hk : k ≤ 32) (hx : x < k) (hy : y < k) (ht : tieB t k = true) (h : ApAt w bw bx byy g k x y l) :
    Calls Tryz.prog 103 #[tieV t, .pointer (some ⟨bw, 0, none⟩), .pointer (some ⟨bx, 0, none⟩), .pointer (some ⟨byy, 0, none⟩)] w fun e w' => e = .returned (.bool (cutB l x y t)) ∧ Below w.heap.size w w' := by
  obtain ⟨ha0, ha1, hb0, hb1, ha2, hb2⟩ := tieB_in ht
  have hc := cut_cases l x y t
  have HA := Lib.hid h
  have HCT : Hid (∀ W, Calls Tryz.prog 89 #[.agg #[.int .i64 t.a, .int .i64 t.b, .int .i64 t.kind, .int .i64 t.str, .int .i64 t.src]] W fun e w' => e = .returned (.bool (t.kind == 1)) ∧ Below W.heap.size W w') := fun W => tCut_any t W
  obtain ⟨ya, yb, yk, ys, yr⟩ := t
  simp only at ha0 ha1 hb0 hb1 ha2 hb2 hc HCT
  obtain ⟨xa, rfl⟩ := Int.eq_ofNat_of_zero_le ha0
  obtain ⟨xb, rfl⟩ := Int.eq_ofNat_of_zero_le hb0
  have HJO : Hid (∀ W (p q : Nat), NB W g l → p < k → q < k → Calls Tryz.prog 45 #[.slice (some ⟨g, 0, none⟩) k k, .int .i64 p, .int .i64 q] W fun e w' => e = .returned (.bool (atI l p == atI l q)) ∧ Below W.heap.size W w') := fun W p q hW hp hq => by
    have := joined_any g l p q W (by omega) hW (by omega) (by omega)
    rw [hlk] at this; exact this
  have HLT : Hid (xa < k ∧ xb < k ∧ x < k ∧ y < k) := ⟨by omega, by omega, hx, hy⟩
  clear h ht hlk hk hx hy ha0 ha1 hb0 hb1 ha2 hb2
  have HCC : Hid (∀ W, Below (w.heap.size + 1) (w.alloc (.cells #[.int .i64 xa, .int .i64 xb, .int .i64 yk, .int .i64 ys, .int .i64 yr] 54)) W → apC W bw bx byy g k x y w.heap.size ⟨xa, xb, yk, ys, yr⟩ ∧ NB W g l) := fun W hb => by
    have hb' : Below (w.alloc (.cells #[.int .i64 xa, .int .i64 xb, .int .i64 yk, .int .i64 ys, .int .i64 yr] 54)).heap.size (w.alloc (.cells #[.int .i64 xa, .int .i64 xb, .int .i64 yk, .int .i64 ys, .int .i64 yr] 54)) W := by simpa using hb
    have h1 := (HA.out.below ((Below.refl _ _).alloc (Nat.le_refl _) (.cells #[.int .i64 xa, .int .i64 xb, .int .i64 yk, .int .i64 ys, .int .i64 yr] 54))).below hb'
    exact ⟨h1.cells ((TieAt.new w ⟨xa, xb, yk, ys, yr⟩ 54).below hb'), h1.gr⟩
  obtain ⟨_, _, _, _, _, _, _, _⟩ := (HCC.out _ (Below.refl _ _)).1
  rcases hc with ⟨q0, hr⟩ | ⟨q0, ⟨q1, q2, hr⟩ | ⟨q1, q2, q3, q4, hr⟩ | ⟨q1, q2, q3, q4, hr⟩ | ⟨q1, q2, q3, hr⟩ | ⟨q1, q3, q4, hr⟩ | ⟨q1, q3, q4, hr⟩ | ⟨q1, q3, hr⟩⟩
  all_goals (
    rw [hr]
    clear hr
    go_enter Tryz.func103, Tryz.ntmps103
    simp only [tieV]
    have HB : Hid (Below (w.heap.size + 1) (w.alloc (.cells #[.int .i64 xa, .int .i64 xb, .int .i64 yk, .int .i64 ys, .int .i64 yr] 54)) (w.alloc (.cells #[.int .i64 xa, .int .i64 xb, .int .i64 yk, .int .i64 ys, .int .i64 yr] 54))) := Below.refl _ _
    go_wp2_with (first | (go_at_call 89; refine (HCT.out _).mono ?_; rintro e w2 ⟨rfl, hb2⟩; replace HB := Lib.hid (HB.out.trans (hb2.mono (by have := HB.out.size; simp at this ⊢))); clear hb2; obtain ⟨_, _, _, _, _, _, _, _⟩ := (HCC.out _ HB.out).1; try simp only [q0]) | (go_at_call 45; refine (HJO.out _ _ _ (HCC.out _ HB.out).2 (by first | exact HLT.out.1 | exact HLT.out.2.1) (by first | exact HLT.out.2.2.1 | exact HLT.out.2.2.2)).mono ?_; rintro e w3 ⟨rfl, hb3⟩; replace HB := Lib.hid (HB.out.trans (hb3.mono (by have := HB.out.size; simp at this; omega))); clear hb3; obtain ⟨_, _, _, _, _, _, _, _⟩ := (HCC.out _ HB.out).1; (try simp only [q1]); (try simp only [q2]); (try simp only [q3]); (try simp only [q4])))
    go_ret
    exact ⟨rfl, ((Below.refl _ _).alloc (Nat.le_refl _) _).trans (HB.out.mono (by omega))⟩)
end Go.Proofs.YthjeiaildabadaaGreat
/- Layer 4: Apart of the program. -/
namespace Go.Proofs.YthjeiaildabadaaGreat
set_option linter.unusedSimpArgs false
set_option linter.unusedVariables false
open Go Go.RowKit

def apF (bw bx byy : Nat) : Value := .func (.func 103) #[] #[.pointer (some ⟨bw, 0, none⟩), .pointer (some ⟨bx, 0, none⟩), .pointer (some ⟨byy, 0, none⟩)]
theorem any_no {l : List Int} {ts : List TieD} {x y : Int} {k : Nat} (hk : k < ts.length) (h : (ts.take k).any (cutB l x y) = false) (h2 : cutB l x y ts[k] = false) : (ts.take (k + 1)).any (cutB l x y) = false := by
  rw [← List.take_append_getElem hk, List.any_append, h]; simp [h2]
theorem any_yes {l : List Int} {ts : List TieD} {x y : Int} {k : Nat} (hk : k < ts.length) (h2 : cutB l x y ts[k] = true) : apB l ts x y = true := by
  unfold apB
  rw [List.any_eq_true]
  exact ⟨_, List.getElem_mem hk, h2⟩
set_option maxRecDepth 100000 in
set_option maxHeartbeats 4000000 in
theorem apIx_any (a : Option Addr) (cap : Nat) (ts : List TieD) (bw bx byy g k x y : Nat) (l : List Int) (w : World) (hl : ts.length ≤ 100000) (hs : TiesAt w a ts) (hlk : l.length = k) (hk : k ≤ 32) (hx : x < k) (hy : y < k) (ht : ∀ t ∈ ts, tieB t k = true) (h : ApAt w bw bx byy g k x y l) :
    Calls Tryz.prog 87 #[.slice a ts.length cap, apF bw bx byy] w fun e w' => (∃ r : Int, e = .returned (.int .i64 r) ∧ decide (0 ≤ r) = apB l ts x y) ∧ Below w.heap.size w w' := by
  have HS := Lib.hid hs
  have HA := Lib.hid h
  have HF : Hid (∀ W t, t ∈ ts → Below w.heap.size w W → Calls Tryz.prog 103 #[.agg #[.int .i64 t.a, .int .i64 t.b, .int .i64 t.kind, .int .i64 t.str, .int .i64 t.src], .pointer (some ⟨bw, 0, none⟩), .pointer (some ⟨bx, 0, none⟩), .pointer (some ⟨byy, 0, none⟩)] W fun e w' => e = .returned (.bool (cutB l x y t)) ∧ Below W.heap.size W w') := fun W t hm hb => apFn_any t bw bx byy g k x y l W hlk hk hx hy (ht t hm) (h.below hb)
  obtain ⟨m, hm⟩ : ∃ m, m = ts.length := ⟨_, rfl⟩
  rw [← hm] at hl ⊢
  have HM := Lib.hid hm
  clear hs hm h hlk hk hx hy ht HA
  go_enter Tryz.func87, Tryz.ntmps87
  simp only [apF]
  go_wp2_with fail
  go_loopw [8] (fun ti wr => ∃ j : Nat, j ≤ m ∧ ti = .int .i64 j ∧ Hid ((ts.take j).any (cutB l x y) = false) ∧ Hid (Below w.heap.size w wr)) (fun ti _ => m - (intOf ti).toNat)
  case atStart => exact ⟨0, by omega, rfl, by simp [Hid], Below.refl _ _⟩
  case round =>
    obtain ⟨j, hj, rfl, HN, HB⟩ := hrel
    by_cases hlt : j < m
    · have hkl : j < ts.length := by rw [← HM.out]; exact hlt
      obtain ⟨lb, lo, rfl, hlb, c0, c1, c2, c3, c4⟩ := (HS.out.below HB.out).at hkl
      have HC := Lib.hid (HF.out wr ts[j] (List.getElem_mem hkl) HB.out)
      have HNO := Lib.hid (any_no hkl HN.out)
      have HYES := Lib.hid (any_yes (l := l) (x := x) (y := y) hkl)
      obtain ⟨z, hz⟩ : ∃ z, z = ts[j] := ⟨_, rfl⟩
      rw [← hz] at HC HNO HYES c0 c1 c2 c3 c4
      obtain ⟨v, hv⟩ : ∃ v, v = cutB l x y z := ⟨_, rfl⟩
      rw [← hv] at HC HNO HYES
      obtain ⟨za, zb, zk, zs, zr⟩ := z
      simp only at HC c0 c1 c2 c3 c4
      clear hkl hz hv HF HN
      have hb0 := HB.out.size
      cases v with
      | true =>
        go_wp2_with (first | (go_at_call 103; refine HC.out.mono ?_; rintro e w5 ⟨rfl, hb5⟩; clear HC))
        go_ret
        exact ⟨⟨j, rfl, by rw [HYES.out (by trivial)]; simp⟩, HB.out.trans (hb5.mono hb0)⟩
      | false =>
        go_wp2_with (first | (go_at_call 103; refine HC.out.mono ?_; rintro e w5 ⟨rfl, hb5⟩; clear HC))
        exact ⟨⟨j + 1, by omega, by simp, HNO.out (by trivial), HB.out.trans (hb5.mono hb0)⟩, by simp [intOf]; omega⟩
    · have HE : Hid (apB l ts x y = false) := by
        have := HN.out
        rwa [List.take_of_length_le (by rw [← HM.out]; omega)] at this
      clear HF HN
      go_wp2_with fail
      go_ret
      exact ⟨⟨_, rfl, by rw [HE.out]; rfl⟩, HB.out⟩
set_option maxRecDepth 100000 in
set_option maxHeartbeats 2000000 in
theorem apHas_any (a : Option Addr) (cap : Nat) (ts : List TieD) (bw bx byy g k x y : Nat) (l : List Int) (w : World) (hl : ts.length ≤ 100000) (hs : TiesAt w a ts) (hlk : l.length = k) (hk : k ≤ 32) (hx : x < k) (hy : y < k) (ht : ∀ t ∈ ts, tieB t k = true) (h : ApAt w bw bx byy g k x y l) :
    Calls Tryz.prog 102 #[.slice a ts.length cap, apF bw bx byy] w fun e w' => e = .returned (.bool (apB l ts x y)) ∧ Below w.heap.size w w' := by
  have HX := Lib.hid (apIx_any a cap ts bw bx byy g k x y l w hl hs hlk hk hx hy ht h)
  obtain ⟨r0, hr0⟩ : ∃ r0, r0 = apB l ts x y := ⟨_, rfl⟩
  rw [← hr0] at HX ⊢
  obtain ⟨m, hm⟩ : ∃ m, m = ts.length := ⟨_, rfl⟩
  rw [← hm] at HX ⊢
  clear hs h hm hr0 ht hlk hk hx hy hl
  go_enter Tryz.func102, Tryz.ntmps102
  simp only [apF] at HX ⊢
  go_wp2_with (first | (go_at_call 87; refine HX.out.mono ?_; rintro e w5 ⟨⟨r, rfl, hr⟩, hb5⟩; clear HX; have HR := Lib.hid hr; have HB5 := Lib.hid hb5; clear hr hb5))
  go_ret
  exact ⟨by rw [← HR.out]; rfl, HB5.out⟩
set_option maxRecDepth 100000 in
set_option maxHeartbeats 2000000 in
theorem apart_any (a : Option Addr) (cap : Nat) (ts : List TieD) (g k x y : Nat) (l : List Int) (w : World) (hl : ts.length ≤ 100000) (hs : TiesAt w a ts) (hlk : l.length = k) (hk : k ≤ 32) (hx : x < k) (hy : y < k) (ht : ∀ t ∈ ts, tieB t k = true) (h : NB w g l) :
    Calls Tryz.prog 76 #[wkV k a ts.length cap g k, .int .i64 x, .int .i64 y] w fun e w' => e = .returned (.bool (apB l ts x y)) ∧ Below w.heap.size w w' := by
  have HX : Hid (∀ W bw bx byy, Below w.heap.size w W → ApAt W bw bx byy g k x y l → Calls Tryz.prog 102 #[.slice a ts.length cap, apF bw bx byy] W fun e w' => e = .returned (.bool (apB l ts x y)) ∧ Below W.heap.size W w') := fun W bw bx byy hb hA => apHas_any a cap ts bw bx byy g k x y l W hl (hs.below hb) hlk hk hx hy ht hA
  have HG := Lib.hid h
  obtain ⟨r0, hr0⟩ : ∃ r0, r0 = apB l ts x y := ⟨_, rfl⟩
  rw [← hr0] at HX ⊢
  obtain ⟨m, hm⟩ : ∃ m, m = ts.length := ⟨_, rfl⟩
  rw [← hm] at HX ⊢
  clear hs h hm hr0 ht hlk hk hx hy hl
  have hmf : ∀ (fn : Fn) (first cap : Array Value) (w : World), (Instr.makeFunc fn first cap).run Tryz.prog w = .ok (.func fn first cap) w := fun _ _ _ _ => rfl
  go_enter Tryz.func76, Tryz.ntmps76
  simp only [wkV, apF] at HX ⊢
  go_upto_region 1 with (fail)
  refine named (fun V => Below w.heap.size w V ∧ Blk V w.heap.size [.int .i64 k, .slice a m cap, .slice (some ⟨g, 0, none⟩) k k] 65 ∧ Blk V (w.heap.size + 1) [.int .i64 x] 3 ∧ Blk V (w.heap.size + 1 + 1) [.int .i64 y] 3) ?_ ?_
  · have b1 := Blk.new w [.int .i64 k, .slice a m cap, .slice (some ⟨g, 0, none⟩) k k] 65
    have b2 := Blk.new (w.alloc (.cells #[.int .i64 k, .slice a m cap, .slice (some ⟨g, 0, none⟩) k k] 65)) [.int .i64 x] 3
    have b3 := Blk.new ((w.alloc (.cells #[.int .i64 k, .slice a m cap, .slice (some ⟨g, 0, none⟩) k k] 65)).alloc (.cells #[.int .i64 x] 3)) [.int .i64 y] 3
    refine ⟨(((Below.refl _ _).alloc (Nat.le_refl _) _).alloc (by simp) _).alloc (by simp; omega) _, (b1.block (Below.heap_alloc _ _ _ (by simp))).block (Below.heap_alloc _ _ _ (by simp; omega)), ?_, ?_⟩
    · have := b2.block (Below.heap_alloc _ (.cells #[.int .i64 y] 3) _ b2.lt)
      simpa using this
    · simpa using b3
  rintro W0 ⟨FB, K1, K2, K3⟩
  generalize hb1 : w.heap.size = b1 at K1 K2 K3 ⊢
  generalize hb2 : b1 + 1 = b2 at K2 K3 ⊢
  generalize hb3 : b2 + 1 = b3 at K3 ⊢
  have c1 := K1.cell (i := 1) rfl
  have HAP : Hid (ApAt W0 b1 b2 b3 g k x y l) := ⟨⟨_, _, _, _, K1⟩, K2, K3, HG.out.block (FB.block _ HG.out.lt)⟩
  replace FB := Lib.hid FB
  have L1 := Lib.hid hb1
  clear K1 K2 K3 hb1 hb2 hb3
  go_wp2_with (first | (go_at_call 102; go_loud (refine (HX.out _ _ _ _ FB.out HAP.out).mono ?_; rintro e w5 ⟨rfl, hb5⟩); clear HX; have HB5 := Lib.hid hb5; clear hb5))
  go_ret
  exact ⟨rfl, FB.out.trans (HB5.out.mono FB.out.size)⟩
set_option maxRecDepth 100000 in
set_option maxHeartbeats 2000000 in
theorem tApart_any (n : Int) (a : Option Addr) (cap : Nat) (ts : List TieD) (x y : Int) (w : World) (hl : ts.length ≤ 9223372036854775807) (hs : TiesAt w a ts) :
    Calls Tryz.prog 31 #[gV n a ts.length cap, .int .i64 x, .int .i64 y] w fun e w' => e = .returned (.tuple #[.bool (apartR n ts x y), .int .i64 (errA n ts x y)]) ∧ Below w.heap.size w w' := by
  have HC : Hid (∀ W, Below w.heap.size w W → Calls Tryz.prog 50 #[gV n a ts.length cap, .int .i64 x, .int .i64 y] W fun e w' => e = .returned (.int .i64 (errA n ts x y)) ∧ Below W.heap.size W w') := fun W hb => tPair_any n a cap ts x y W hl (hs.below hb)
  unfold apartR
  rcases errA_split n ts x y with ⟨he, hok, k, p, q, rfl, hk, rfl, rfl, hp, hq⟩ | he
  · unfold okG at hok
    simp only [Bool.and_eq_true, decide_eq_true_eq] at hok
    have hv : ∀ t ∈ ts, tieB t k = true := fun t ht => List.all_eq_true.1 hok.2 t ht
    have HBE : Hid (∀ W, Below w.heap.size w W → Calls Tryz.prog 43 #[gV k a ts.length cap] W fun e w' => ∃ g, e = .returned (wkV k a ts.length cap g k) ∧ W.heap.size ≤ g ∧ NB w' g (grpL k ts) ∧ Below W.heap.size W w') := fun W hb => begin_any k a cap ts W hk hok.1.2 hv (hs.below hb)
    have HJO : Hid (∀ W g, Below w.heap.size w W → NB W g (grpL k ts) → Calls Tryz.prog 76 #[wkV k a ts.length cap g k, .int .i64 p, .int .i64 q] W fun e w' => e = .returned (.bool (apB (grpL k ts) ts p q)) ∧ Below W.heap.size W w') := fun W g hb hW => apart_any a cap ts g k p q (grpL k ts) W (by omega) (hs.below hb) (grpL_len _ _) hk hp hq hv hW
    rw [he] at HC ⊢
    simp only [if_true, Int.toNat_natCast]
    obtain ⟨r, hr⟩ : ∃ r, r = apB (grpL k ts) ts p q := ⟨_, rfl⟩
    rw [← hr] at HJO ⊢
    obtain ⟨m, hm⟩ : ∃ m, m = ts.length := ⟨_, rfl⟩
    rw [← hm] at hl HC HBE HJO ⊢
    clear hm hs he hok hr hp hq hv
    go_enter Tryz.func31, Tryz.ntmps31
    simp only [gV, wkV] at HC HBE HJO ⊢
    go_wp2_with (first | (go_at_call 50; refine (HC.out _ ((Below.refl _ _).alloc (Nat.le_refl _) _)).mono ?_; rintro e w1 ⟨rfl, hb⟩; clear HC; have c0 := ((Blk.new w [.int .i64 k, .slice a m cap] 24).below hb).cell (i := 0) rfl; have c1 := ((Blk.new w [.int .i64 k, .slice a m cap] 24).below hb).cell (i := 1) rfl; have HB1 : Hid (Below w.heap.size w w1) := ((Below.refl _ _).alloc (Nat.le_refl _) _).trans (hb.mono (by simp)); clear hb) | (go_at_call 43; refine (HBE.out _ HB1.out).mono ?_; rintro e w2 ⟨g, rfl, hg1, hg2, hb⟩; clear HBE; have HG2 := Lib.hid hg2; have HB2 := Lib.hid (HB1.out.trans (hb.mono HB1.out.size)); clear hb hg1 hg2) | (go_at_call 76; refine (HJO.out _ _ HB2.out HG2.out).mono ?_; rintro e w3 ⟨rfl, hb⟩; clear HJO; have HB3 := Lib.hid (HB2.out.trans (hb.mono HB2.out.size)); clear hb))
    go_ret2
    exact ⟨rfl, HB3.out⟩
  · have hne : errA n ts x y ≠ 0 := by rcases he with he | he <;> rw [he] <;> decide
    rw [if_neg hne]
    obtain ⟨m, hm⟩ : ∃ m, m = ts.length := ⟨_, rfl⟩
    rw [← hm] at hl HC ⊢
    clear hm hs hne
    rcases he with he | he
    all_goals (
      rw [he] at HC ⊢
      clear he
      go_enter Tryz.func31, Tryz.ntmps31
      simp only [gV] at HC ⊢
      go_wp2_with (first | (go_at_call 50; refine (HC.out _ ((Below.refl _ _).alloc (Nat.le_refl _) _)).mono ?_; rintro e w1 ⟨rfl, hb⟩; clear HC; have HB1 : Hid (Below w.heap.size w w1) := ((Below.refl _ _).alloc (Nat.le_refl _) _).trans (hb.mono (by simp)); clear hb))
      go_ret2
      exact ⟨rfl, HB1.out⟩)
end Go.Proofs.YthjeiaildabadaaGreat
