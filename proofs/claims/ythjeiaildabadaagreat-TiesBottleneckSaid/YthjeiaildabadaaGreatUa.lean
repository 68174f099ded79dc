/- Layer 4: valid ties. -/
import Derived.Test.YthjeiaildabadaaGreatProg
import Derived.WalkKit
import Derived.WalkLawsBesides
import Derived.WalkSpells
import Derived.KernelRfl
import Derived.Lib.Hide
import Derived.WalkMore
import Derived.Deep.Cut
import Derived.Below
import Derived.Test.YthjeiaildabadaaGreatK0
namespace Go.Proofs.YthjeiaildabadaaGreat
set_option linter.unusedSimpArgs false
set_option linter.unusedVariables false
open Go Go.RowKit

def tieV (t : TieD) : Value := .agg #[.int .i64 t.a, .int .i64 t.b, .int .i64 t.kind, .int .i64 t.str, .int .i64 t.src]
theorem tFromTo_any (n lo hi : Int) (w : World) :
    Calls Tryz.prog 72 #[.int .i64 n, .int .i64 lo, .int .i64 hi] w fun e w' => e = .returned (.bool (ftB n lo hi)) ∧ w = w' := by
  by_cases h : lo ≤ n
  · go_enter Tryz.func72, Tryz.ntmps72
    go_wp2
    go_ret
    exact ⟨by simp [ftB, h], rfl⟩
  · go_enter Tryz.func72, Tryz.ntmps72
    go_wp2
    go_ret
    exact ⟨by simp [ftB]; omega, rfl⟩
theorem tNode_any (n nodes : Int) (w : World) (h : 1 ≤ nodes ∧ nodes ≤ 32) :
    Calls Tryz.prog 82 #[.int .i64 n, .int .i64 nodes] w fun e w' => e = .returned (.bool (ftB n 0 (nodes - 1))) ∧ w = w' := by
  obtain ⟨m, rfl⟩ : ∃ m : Nat, nodes = ((m + 1 : Nat) : Int) := ⟨(nodes - 1).toNat, by omega⟩
  have hm : m < 32 := by omega
  have HF : Hid (∀ w, Calls Tryz.prog 72 #[.int .i64 n, .int .i64 0, .int .i64 m] w fun e w' => e = .returned (.bool (ftB n 0 m)) ∧ w = w') := fun w => tFromTo_any n 0 m w
  have e : ((m + 1 : Nat) : Int) - 1 = (m : Int) := by omega
  rw [e]
  go_enter Tryz.func82, Tryz.ntmps82
  go_wp2_with (first | (go_at_call 72; refine (HF.out _).mono ?_; rintro e w' ⟨rfl, rfl⟩))
  go_ret
  exact ⟨rfl, rfl⟩
theorem tJoin_any (t : TieD) (w : World) :
    Calls Tryz.prog 41 #[tieV t] w fun e w' => e = .returned (.bool (t.kind == 2)) ∧ Below w.heap.size w w' := by
  go_enter Tryz.func41, Tryz.ntmps41
  simp only [tieV]
  go_wp2_with fail
  go_ret
  exact ⟨rfl, (Below.refl _ _).alloc (Nat.le_refl _) _⟩
theorem tCut_any (t : TieD) (w : World) :
    Calls Tryz.prog 89 #[tieV t] w fun e w' => e = .returned (.bool (t.kind == 1)) ∧ Below w.heap.size w w' := by
  go_enter Tryz.func89, Tryz.ntmps89
  simp only [tieV]
  go_wp2_with fail
  go_ret
  exact ⟨rfl, (Below.refl _ _).alloc (Nat.le_refl _) _⟩
/-- A tie in a box. -/
structure TieAt (W : World) (b : Nat) (t : TieD) : Prop where
  lt : b < W.heap.size
  c0 : W.cell? ⟨b, 0, none⟩ = some (.int .i64 t.a)
  c1 : W.cell? ⟨b, 1, none⟩ = some (.int .i64 t.b)
  c2 : W.cell? ⟨b, 2, none⟩ = some (.int .i64 t.kind)
  c3 : W.cell? ⟨b, 3, none⟩ = some (.int .i64 t.str)
  c4 : W.cell? ⟨b, 4, none⟩ = some (.int .i64 t.src)
theorem TieAt.new (W : World) (t : TieD) (ty : TypeId) : TieAt (W.alloc (.cells #[.int .i64 t.a, .int .i64 t.b, .int .i64 t.kind, .int .i64 t.str, .int .i64 t.src] ty)) W.heap.size t :=
  ⟨by simp, by rw [World.cell?_alloc_new]; rfl, by rw [World.cell?_alloc_new]; rfl, by rw [World.cell?_alloc_new]; rfl, by rw [World.cell?_alloc_new]; rfl, by rw [World.cell?_alloc_new]; rfl⟩
theorem TieAt.below {W W' : World} {b : Nat} {t : TieD} (h : TieAt W b t) (hb : Below W.heap.size W W') : TieAt W' b t :=
  ⟨Nat.lt_of_lt_of_le h.lt hb.size, by rw [hb.cell (by exact h.lt)]; exact h.c0, by rw [hb.cell (by exact h.lt)]; exact h.c1, by rw [hb.cell (by exact h.lt)]; exact h.c2, by rw [hb.cell (by exact h.lt)]; exact h.c3, by rw [hb.cell (by exact h.lt)]; exact h.c4⟩
theorem tie_cases (t : TieD) (n : Int) : (ftB t.a 0 (n - 1) = false ∧ tieB t n = false) ∨ (ftB t.a 0 (n - 1) = true ∧ ftB t.b 0 (n - 1) = false ∧ tieB t n = false) ∨ (ftB t.a 0 (n - 1) = true ∧ ftB t.b 0 (n - 1) = true ∧ t.a = t.b ∧ tieB t n = false) ∨
    (ftB t.a 0 (n - 1) = true ∧ ftB t.b 0 (n - 1) = true ∧ (t.a == t.b) = false ∧ (((t.kind == 2) = false ∧ (t.kind == 1) = false ∧ tieB t n = false) ∨
      ((t.kind == 2) = true ∧ ((ftB t.str 1 100 = false ∧ tieB t n = false) ∨ (ftB t.str 1 100 = true ∧ ftB t.src 0 4095 = false ∧ tieB t n = false) ∨ (ftB t.str 1 100 = true ∧ ftB t.src 0 4095 = true ∧ tieB t n = true))) ∨
      ((t.kind == 2) = false ∧ (t.kind == 1) = true ∧ ((ftB t.str 1 100 = false ∧ tieB t n = false) ∨ (ftB t.str 1 100 = true ∧ ftB t.src 0 4095 = false ∧ tieB t n = false) ∨ (ftB t.str 1 100 = true ∧ ftB t.src 0 4095 = true ∧ tieB t n = true))))) := by
  unfold tieB
  cases ftB t.a 0 (n - 1) <;> cases ftB t.b 0 (n - 1) <;> by_cases h : t.a = t.b <;> cases (t.kind == 2) <;> cases (t.kind == 1) <;> cases ftB t.str 1 100 <;> cases ftB t.src 0 4095 <;> simp [h]
set_option maxRecDepth 100000 in
set_option maxHeartbeats 2000000 in
theorem tTie_any (t : TieD) (n : Int) (w : World) (hn : 1 ≤ n ∧ n ≤ 32) :
    Calls Tryz.prog 73 #[tieV t, .int .i64 n] w fun e w' => e = .returned (.bool (tieB t n)) ∧ Below w.heap.size w w' := by
  have HN : Hid (∀ x w, Calls Tryz.prog 82 #[.int .i64 x, .int .i64 n] w fun e w' => e = .returned (.bool (ftB x 0 (n - 1))) ∧ w = w') := fun x w => tNode_any x n w hn
  have hc := tie_cases t n
  obtain ⟨a, b, kd, st, sr⟩ := t
  have HJ : Hid (∀ w, Calls Tryz.prog 41 #[.agg #[.int .i64 a, .int .i64 b, .int .i64 kd, .int .i64 st, .int .i64 sr]] w fun e w' => e = .returned (.bool (kd == 2)) ∧ Below w.heap.size w w') := fun w => tJoin_any ⟨a, b, kd, st, sr⟩ w
  have HK : Hid (∀ w, Calls Tryz.prog 89 #[.agg #[.int .i64 a, .int .i64 b, .int .i64 kd, .int .i64 st, .int .i64 sr]] w fun e w' => e = .returned (.bool (kd == 1)) ∧ Below w.heap.size w w') := fun w => tCut_any ⟨a, b, kd, st, sr⟩ w
  have HB0 : Hid (Below w.heap.size w w) := Below.refl _ _
  simp only at hc
  rcases hc with ⟨h1, hr⟩ | ⟨h1, h2, hr⟩ | ⟨h1, h2, rfl, hr⟩ | ⟨h1, h2, h3, ⟨h4, h5, hr⟩ | ⟨h4, ⟨h6, hr⟩ | ⟨h6, h7, hr⟩ | ⟨h6, h7, hr⟩⟩ | ⟨h4, h5, ⟨h6, hr⟩ | ⟨h6, h7, hr⟩ | ⟨h6, h7, hr⟩⟩⟩
  all_goals (
    rw [hr]
    clear hr
    try (have t3 : (a != b) = true := by simpa using h3)
    go_enter Tryz.func73, Tryz.ntmps73
    simp only [tieV]
    go_wp2_with (first | (go_at_call 82; refine (HN.out _ _).mono ?_; rintro e w' ⟨rfl, rfl⟩; (try simp only [h1]); (try simp only [h2])) | (go_at_call 72; refine (tFromTo_any _ _ _ _).mono ?_; rintro e w' ⟨rfl, rfl⟩; (try simp only [h6]); (try simp only [h7])) | (go_at_call 41; refine (HJ.out _).mono ?_; rintro e w2 ⟨rfl, hb2⟩; obtain ⟨_, d0, d1, d2, d3, d4⟩ := (TieAt.new w ⟨a, b, kd, st, sr⟩ 54).below hb2; simp only at d0 d1 d2 d3 d4; try simp only [h4]) | (go_at_call 89; refine (HK.out _).mono ?_; rintro e w3 ⟨rfl, hb3⟩; obtain ⟨_, e0, e1, e2, e3, e4⟩ := ((TieAt.new w ⟨a, b, kd, st, sr⟩ 54).below hb2).below hb3; simp only at e0 e1 e2 e3 e4; try simp only [h5]))
    all_goals (
    go_ret
    refine ⟨rfl, ?_⟩
    first | exact (Below.refl _ _).alloc (Nat.le_refl _) _ | exact ((Below.refl _ _).alloc (Nat.le_refl _) _).trans (hb2.mono (by simp)) | exact (((Below.refl _ _).alloc (Nat.le_refl _) _).trans (hb2.mono (by simp))).trans (hb3.mono (by have := hb2.size; simp at this; omega))))
/-- The cells of a slice of ties. -/
def TiesAt (w : World) (a : Option Addr) (ts : List TieD) : Prop := ts = [] ∨ ∃ b o, a = some ⟨b, o, none⟩ ∧ b < w.heap.size ∧ ∀ i t, ts[i]? = some t → w.cell? ⟨b, o + i * 5, none⟩ = some (.int .i64 t.a) ∧ w.cell? ⟨b, o + i * 5 + 1, none⟩ = some (.int .i64 t.b) ∧ w.cell? ⟨b, o + i * 5 + 2, none⟩ = some (.int .i64 t.kind) ∧ w.cell? ⟨b, o + i * 5 + 3, none⟩ = some (.int .i64 t.str) ∧ w.cell? ⟨b, o + i * 5 + 4, none⟩ = some (.int .i64 t.src)
theorem TiesAt.below {w w' : World} {a : Option Addr} {ts : List TieD} (h : TiesAt w a ts) (hb : Below w.heap.size w w') : TiesAt w' a ts := by
  rcases h with h | ⟨b, o, rfl, hlt, h⟩
  · exact .inl h
  · refine .inr ⟨b, o, rfl, Nat.lt_of_lt_of_le hlt hb.size, fun i e he => ?_⟩
    obtain ⟨h1, h2, h3, h4, h5⟩ := h i e he
    exact ⟨by rw [hb.cell (by exact hlt)]; exact h1, by rw [hb.cell (by exact hlt)]; exact h2, by rw [hb.cell (by exact hlt)]; exact h3, by rw [hb.cell (by exact hlt)]; exact h4, by rw [hb.cell (by exact hlt)]; exact h5⟩
theorem TiesAt.at {w : World} {a : Option Addr} {ts : List TieD} (h : TiesAt w a ts) {i : Nat} (hi : i < ts.length) : ∃ b o, a = some ⟨b, o, none⟩ ∧ b < w.heap.size ∧ w.cell? ⟨b, o + i * 5, none⟩ = some (.int .i64 ts[i].a) ∧ w.cell? ⟨b, o + i * 5 + 1, none⟩ = some (.int .i64 ts[i].b) ∧ w.cell? ⟨b, o + i * 5 + 2, none⟩ = some (.int .i64 ts[i].kind) ∧ w.cell? ⟨b, o + i * 5 + 3, none⟩ = some (.int .i64 ts[i].str) ∧ w.cell? ⟨b, o + i * 5 + 4, none⟩ = some (.int .i64 ts[i].src) := by
  rcases h with rfl | ⟨b, o, rfl, hlt, h⟩
  · simp at hi
  · exact ⟨b, o, rfl, hlt, h i _ (List.getElem?_eq_getElem hi)⟩
def okG (n : Int) (ts : List TieD) : Bool := ftB n 1 32 && decide (ts.length ≤ 512) && ts.all (tieB · n)
def errG (n : Int) (ts : List TieD) : Int := if okG n ts then 0 else 40
theorem tall_step {ts : List TieD} {k : Nat} {n : Int} (hk : k < ts.length) : (ts.take (k + 1)).all (tieB · n) = ((ts.take k).all (tieB · n) && tieB ts[k] n) := by
  rw [← List.take_append_getElem hk, List.all_append]; simp
theorem tall_bad {ts : List TieD} {k : Nat} {n : Int} (hk : k < ts.length) (h : tieB ts[k] n = false) : ts.all (tieB · n) = false := by
  rw [Bool.eq_false_iff]
  intro h2
  have := List.all_eq_true.1 h2 _ (List.getElem_mem hk)
  rw [h] at this; cases this
set_option maxRecDepth 100000 in
set_option maxHeartbeats 2000000 in
theorem tCheck_any (n : Int) (a : Option Addr) (cap : Nat) (ts : List TieD) (w : World) (hl : ts.length ≤ 9223372036854775807) (hs : TiesAt w a ts) :
    Calls Tryz.prog 24 #[.agg #[.int .i64 n, .slice a ts.length cap]] w fun e w' => e = .returned (.int .i64 (errG n ts)) ∧ Below w.heap.size w w' := by
  have HS := Lib.hid hs
  obtain ⟨m, hm⟩ : ∃ m, m = ts.length := ⟨_, rfl⟩
  have HOK : Hid (okG n ts = (ftB n 1 32 && decide (m ≤ 512) && ts.all (tieB · n))) := by rw [hm]; rfl
  unfold errG
  rw [← hm] at hl ⊢
  have HM := Lib.hid hm
  clear hs hm
  cases h1 : ftB n 1 32 with
  | false =>
    have HR : Hid (okG n ts = false) := by rw [Hid, HOK.out, h1]; rfl
    rw [HR.out]
    go_enter Tryz.func24, Tryz.ntmps24
    go_wp2_with (first | (go_at_call 72; refine (tFromTo_any _ _ _ _).mono ?_; rintro e w' ⟨rfl, rfl⟩; simp only [h1]))
    go_ret
    exact ⟨rfl, (Below.refl _ _).alloc (Nat.le_refl _) _⟩
  | true =>
  by_cases h2 : m ≤ 512
  case neg =>
    have HR : Hid (okG n ts = false) := by rw [Hid, HOK.out, h1, decide_eq_false h2]; rfl
    rw [HR.out]
    have t2 : decide (512 < m) = true := decide_eq_true (by omega)
    go_enter Tryz.func24, Tryz.ntmps24
    go_wp2_with (first | (go_at_call 72; refine (tFromTo_any _ _ _ _).mono ?_; rintro e w' ⟨rfl, rfl⟩; simp only [h1]))
    go_ret
    exact ⟨rfl, (Below.refl _ _).alloc (Nat.le_refl _) _⟩
  case pos =>
    have t2 : decide (512 < m) = false := decide_eq_false (by omega)
    have HR : Hid (okG n ts = ts.all (tieB · n)) := by rw [Hid, HOK.out, h1, decide_eq_true h2]; rfl
    rw [HR.out]
    obtain ⟨E, hE⟩ : ∃ E : Int, E = if ts.all (tieB · n) = true then 0 else 40 := ⟨_, rfl⟩
    have HEE := Lib.hid hE
    rw [← hE]
    clear hE
    have hn : 1 ≤ n ∧ n ≤ 32 := by unfold ftB at h1; simp only [Bool.and_eq_true, decide_eq_true_eq] at h1; exact h1
    have HT : Hid (∀ t W, Calls Tryz.prog 73 #[.agg #[.int .i64 t.a, .int .i64 t.b, .int .i64 t.kind, .int .i64 t.str, .int .i64 t.src], .int .i64 n] W fun e w' => e = .returned (.bool (tieB t n)) ∧ Below W.heap.size W w') := fun t W => tTie_any t n W hn
    clear hn HOK HR
    go_enter Tryz.func24, Tryz.ntmps24
    go_wp2_with (first | (go_at_call 72; refine (tFromTo_any _ _ _ _).mono ?_; rintro e w' ⟨rfl, rfl⟩; simp only [h1]))
    go_loopw [18] (fun ti wr => ∃ k : Nat, k ≤ m ∧ ti = .int .i64 k ∧ Hid ((ts.take k).all (tieB · n) = true) ∧ wr.cell? ⟨w.heap.size, 0, none⟩ = some (.int .i64 n) ∧ w.heap.size < wr.heap.size ∧ Hid (Below w.heap.size w wr)) (fun ti _ => m - (intOf ti).toNat)
    case atStart => exact ⟨0, by omega, rfl, rfl, by rw [World.cell?_alloc_new]; rfl, by simp, (Below.refl _ _).alloc (Nat.le_refl _) _⟩
    case round =>
      obtain ⟨k, hk, rfl, HA, hc0, hsz, HB⟩ := hrel
      by_cases hlt : k < m
      · have hkl : k < ts.length := by rw [← HM.out]; exact hlt
        have HAS : Hid ((ts.take (k + 1)).all (tieB · n) = tieB ts[k] n) := by rw [Hid, tall_step hkl, HA.out, Bool.true_and]
        have HBAD : Hid (tieB ts[k] n = false → ts.all (tieB · n) = false) := tall_bad hkl
        obtain ⟨lb, lo, rfl, hlb, c0, c1, c2, c3, c4⟩ := (HS.out.below HB.out).at hkl
        obtain ⟨x, hx⟩ : ∃ x, x = ts[k] := ⟨_, rfl⟩
        rw [← hx] at HAS HBAD c0 c1 c2 c3 c4
        have HC : Hid (∀ W, Calls Tryz.prog 73 #[.agg #[.int .i64 x.a, .int .i64 x.b, .int .i64 x.kind, .int .i64 x.str, .int .i64 x.src], .int .i64 n] W fun e w' => e = .returned (.bool (tieB x n)) ∧ Below W.heap.size W w') := fun W => HT.out x W
        obtain ⟨p, hp⟩ : ∃ p, p = tieB x n := ⟨_, rfl⟩
        rw [← hp] at HAS HBAD HC
        obtain ⟨xa, xb, xk, xs, xr⟩ := x
        clear hx hkl HA hp HT
        simp only at c0 c1 c2 c3 c4 HC
        have hb0 := HB.out.size
        cases p with
        | true =>
          go_wp2_with (first | (go_at_call 73; refine (HC.out _).mono ?_; rintro e w5 ⟨rfl, hb5⟩; clear HC))
          exact ⟨⟨k + 1, by omega, by simp, HAS.out, by rw [hb5.cell (by simp; omega), World.cell?_alloc_old _ _ _ (by simp; omega)]; exact hc0, by have := hb5.size; simp at this; omega, (HB.out.alloc hb0 _).trans (hb5.mono (by simp; omega))⟩, by simp [intOf]; omega⟩
        | false =>
          go_wp2_with (first | (go_at_call 73; refine (HC.out _).mono ?_; rintro e w5 ⟨rfl, hb5⟩; clear HC))
          go_ret
          exact ⟨by rw [HEE.out, HBAD.out trivial]; rfl, (HB.out.alloc hb0 _).trans (hb5.mono (by simp; omega))⟩
      · have HE : Hid (ts.all (tieB · n) = true) := by
          have := HA.out
          rwa [List.take_of_length_le (by rw [← HM.out]; omega)] at this
        have t3 : decide (k < m) = false := decide_eq_false hlt
        clear HT
        go_wp2_with fail
        go_ret
        exact ⟨by rw [HEE.out, HE.out]; rfl, HB.out⟩
end Go.Proofs.YthjeiaildabadaaGreat
