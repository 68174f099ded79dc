/- Layer 4: what the law TiesChains needs. -/
import Derived.Test.YthjeiaildabadaaGreatKb
import Derived.Test.YthjeiaildabadaaGreatKc
import Derived.Test.YthjeiaildabadaaGreatKd
import Derived.Test.YthjeiaildabadaaGreatK4
namespace Go.Proofs.YthjeiaildabadaaGreat
set_option linter.unusedSimpArgs false
set_option linter.unusedVariables false
open Go Go.RowKit

def FA (w W : World) (g : List Value) : Prop := Blk W w.heap.size g 24 ∧ Below w.heap.size w W
theorem FA.below {w W W' : World} {g : List Value} (k : FA w W g) (hb : Below W.heap.size W W') : FA w W' g := ⟨k.1.below hb, k.2.trans (hb.mono k.2.size)⟩
theorem FA.new (w : World) (g : List Value) : FA w (w.alloc (.cells g.toArray 24)) g := ⟨Blk.new w g _, (Below.refl _ _).alloc (Nat.le_refl _) _⟩
theorem FA.set_ {w W : World} {g : List Value} (k : FA w W g) {b : Nat} (hb : w.heap.size < b) (i : Nat) (v : Value) : FA w (W.setCell ⟨b, i, none⟩ v) g := by
  refine ⟨?_, k.2.setCell (Nat.le_of_lt hb) v⟩
  have h := ((Only.refl b W).set_ i v).1 w.heap.size k.1.lt (by omega)
  unfold FA Blk at *
  rw [h]; exact k.1
theorem any_step {ts : List TieD} {f : TieD → Bool} {j : Nat} (h : j < ts.length) : (ts.take (j + 1)).any f = ((ts.take j).any f || f ts[j]) := by
  rw [← List.take_append_getElem h, List.any_append]; simp
set_option maxRecDepth 100000 in
set_option maxHeartbeats 2000000 in
theorem checkWhy_any (n : Int) (a : Option Addr) (cap cq : Nat) (ts : List TieD) (r : Option Addr) (l : List Int) (x y : Int) (w : World) (hl2 : l.length ≤ 1000) (h0 : errA n ts x y = 0) (hs : TiesAt w a ts) (hr : IntsAt w r l) :
    Calls Tryz.prog 38 #[gV n a ts.length cap, .int .i64 x, .int .i64 y, .slice r l.length cq] w fun e w' => e = .returned (.int .i64 (chnF ts l x y 1)) ∧ Below w.heap.size w w' := by
  have HW : Hid (∀ W, Below w.heap.size w W → Calls Tryz.prog 74 #[gV n a ts.length cap, .int .i64 x, .int .i64 y, .slice r l.length cq, .int .i64 1] W fun e w' => e = .returned (.int .i64 (chnF ts l x y 1)) ∧ Below W.heap.size W w') := fun W hb => checkWalk_any n a cap cq ts r l x y 1 W hl2 h0 (hs.below hb) (hr.below hb)
  generalize chnF ts l x y 1 = E at *
  generalize ts.length = m at *
  generalize l.length = q at *
  have HB0 : Hid (Below w.heap.size w (w.alloc (.cells #[.int .i64 n, .slice a m cap] 24))) := (Below.refl _ _).alloc (Nat.le_refl _) _
  clear hl2 h0 hs hr
  simp only [gV] at HW ⊢
  go_enter Tryz.func38, Tryz.ntmps38
  go_wp2_with (first | (go_at_call 74; refine (HW.out _ HB0.out).mono ?_; rintro e w1 ⟨rfl, hb⟩; have HB3 := Lib.hid (HB0.out.trans (hb.mono HB0.out.size)); clear hb))
  go_ret
  exact ⟨rfl, HB3.out⟩
/-- A list at hand. -/
def LstA (p : List Int → Prop) (u : Value) (w : World) : Prop := ∃ (l : List Int) (r : Option Addr) (k : Nat), u = .slice r l.length k ∧ l.length ≤ 1000 ∧ p l ∧ IntsAt w r l
theorem LstA.below {p : List Int → Prop} {u : Value} {w w' : World} (h : LstA p u w) (hb : Below w.heap.size w w') : LstA p u w' := by
  obtain ⟨l, r, k, h1, h2, h3, h4⟩ := h
  exact ⟨l, r, k, h1, h2, h3, h4.below hb⟩
theorem sub_1 (t : TypeId) (x y : Operand) (i : Nat) (h : i ≤ 100000) (w : World) : (do eqGuard .sub t x y (.int .i64 (i : Int)) (.int .i64 1); binOp .sub t (.int .i64 (i : Int)) (.int .i64 1) : Sem Value).run Tryz.prog w = .ok (.int .i64 ((i : Int) - 1)) w := by
  have hw : IntKind.i64.wrap ((i : Int) - 1) = (i : Int) - 1 := by simp [IntKind.wrap, IntKind.bits, IntKind.signed]; omega
  simp [go_sem, hw]
theorem same_dec {k : Nat} {ts : List TieD} {x y : Int} (h0 : errA k ts x y = 0) : sameR k ts x y = decide (atI (grpL k ts) x = atI (grpL k ts) y) := by
  unfold sameR
  rw [if_pos h0, Int.toNat_natCast]
  exact Bool.eq_iff_iff.2 (by simp)
theorem apart_dec {k : Nat} {ts : List TieD} {x y : Int} (h0 : errA k ts x y = 0) : apartR k ts x y = apB (grpL k ts) ts x y := by
  unfold apartR
  rw [if_pos h0, Int.toNat_natCast]
theorem chn_zero {ts : List TieD} {l : List Int} {x y c : Int} : chnF ts l x y c = 0 ↔ leadF ts l (x, 0) = some (y, c) := by
  unfold chnF
  split
  · rename_i h; exact ⟨fun _ => by simpa using h, fun _ => rfl⟩
  · rename_i h; exact ⟨fun e => by omega, fun e => absurd (by simpa using e) h⟩
theorem chn_two (ts : List TieD) (l : List Int) (x y c : Int) : chnF ts l x y c = 0 ∨ chnF ts l x y c = 42 := by
  unfold chnF; split
  · exact .inl rfl
  · exact .inr rfl
theorem wp_chain {k p z base : Nat} {ts : List TieD} {u : Value} {v : Bool} {w' : World} (hv : ∀ t ∈ ts, tieB t k = true) (hp : p < k) (hz : z < k) (h : WP ts 0 p z base u v w') : v = decide (atI (grpL k ts) p = atI (grpL k ts) z) ∧ (v = true → LstA (fun l => chnF ts l p z 0 = 0) u w') := by
  rcases h with ⟨rfl, rfl, h⟩ | ⟨rfl, l, r, c, h1, h2, h3, rfl, h4⟩
  · refine ⟨(decide_eq_false fun e => ?_).symm, fun h => by cases h⟩
    obtain ⟨l, hl⟩ := same_lead hv hp hz e
    exact h l (hl 0)
  · refine ⟨(decide_eq_true (lead_same hv (by simpa using hp) (by simpa using hz) h2)).symm, fun _ => ⟨l, r, c, rfl, by omega, chn_zero.2 h2, (own_intsB h4).2⟩⟩
theorem wp_why {k p z base : Nat} {ts : List TieD} {u : Value} {v : Bool} {w' : World} (hv : ∀ t ∈ ts, tieB t k = true) (hp : p < k) (hz : z < k) (h : WP ts 1 p z base u v w') : v = apB (grpL k ts) ts p z ∧ (v = true → LstA (fun l => chnF ts l p z 1 = 0) u w') := by
  rcases h with ⟨rfl, rfl, h⟩ | ⟨rfl, l, r, c, h1, h2, h3, rfl, h4⟩
  · refine ⟨?_, fun h => by cases h⟩
    cases he : apB (grpL k ts) ts p z with
    | false => rfl
    | true =>
      obtain ⟨l, hl⟩ := apart_lead hv hp hz he
      exact absurd hl (h l)
  · exact ⟨(lead_apart hv (c := 0) (by simpa using hp) (by simpa using hz) h2).symm, fun _ => ⟨l, r, c, rfl, by omega, chn_zero.2 h2, (own_intsB h4).2⟩⟩
theorem way_short {ts : List TieD} {n cuts : Nat} (hn : n ≤ 32) (hc : cuts ≤ 1) (hv : ∀ t ∈ ts, tieB t n = true) {x y : Int} (hx : x.toNat < n) (hy : y.toNat < n) {l : List Int} (h : WayL ts cuts x y l) : ∀ l' : List Int, leadF ts l' (x, 0) = some (y, (cuts : Int)) → l.length ≤ l'.length := by
  obtain ⟨a, b, c, rfl, rfl, h1, h2⟩ := h
  intro l' hl
  have := h1.short hn hc hv (by simpa using hx) (by simpa using hy) (Nat.le_refl _) h2 l' hl
  simpa using this
theorem lead_in {ts : List TieD} {n : Nat} (hv : ∀ t ∈ ts, tieB t n = true) : ∀ {l : List Int} {x c y d : Int}, (0 ≤ x ∧ x < n) → leadF ts l (x, c) = some (y, d) → 0 ≤ y ∧ y < n
  | [], x, c, y, d, hx, h => by
    have h : some (x, c) = some (y, d) := h
    injection h with h; injection h with h1 h2
    omega
  | i :: l, x, c, y, d, hx, h => by
    obtain ⟨⟨z, f⟩, h1, h2⟩ := lead_cons_some h
    obtain ⟨h0, t, ht, _, hab⟩ := step_iff.1 h1
    obtain ⟨ga, ga', gb, gb', _, _⟩ := tieB_in (hv t (List.mem_of_getElem? ht))
    refine lead_in hv ?_ h2
    rcases hab with ⟨_, rfl⟩ | ⟨_, _, rfl⟩ <;> exact ⟨by assumption, by assumption⟩
end Go.Proofs.YthjeiaildabadaaGreat
