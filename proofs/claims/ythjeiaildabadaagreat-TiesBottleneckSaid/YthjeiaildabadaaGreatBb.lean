/- Layer 4: the ways over the ties of a graph. -/
import Derived.Test.YthjeiaildabadaaGreatK8
import Derived.Test.YthjeiaildabadaaGreatK5
import Derived.Laws.EntriesVeiled
namespace Go.Proofs.YthjeiaildabadaaGreat
set_option linter.unusedSimpArgs false
set_option linter.unusedVariables false
open Go Go.RowKit

theorem infoW : (Tryz.prog.info? 113).map (fun i => (i.zero, i.size, i.bytes)) = some (some (.agg #[.nilFunc, .int .i64 0]), 2, 16) := by kernel_rfl
def zwL : Nat → List Value
  | 0 => []
  | n + 1 => .nilFunc :: .int .i64 0 :: zwL n
def wyL : List TieD → List Value
  | [] => []
  | t :: l => .func (.func 116) #[tieV t] #[] :: .int .i64 (cutI t) :: wyL l
theorem zwL_len : ∀ n, (zwL n).length = 2 * n
  | 0 => rfl
  | n + 1 => by simp [zwL, zwL_len n]; omega
theorem wyL_len : ∀ l, (wyL l).length = 2 * l.length
  | [] => rfl
  | t :: l => by simp [wyL, wyL_len l]; omega
theorem wyL_snoc : ∀ (l : List TieD) (t : TieD), wyL (l ++ [t]) = wyL l ++ [.func (.func 116) #[tieV t] #[], .int .i64 (cutI t)]
  | [], t => rfl
  | d :: l, t => by simp [wyL, wyL_snoc l t]
theorem wyL_get : ∀ {l : List TieD} {i : Nat} {t : TieD}, l[i]? = some t → (wyL l)[2 * i]? = some (.func (.func 116) #[tieV t] #[]) ∧ (wyL l)[2 * i + 1]? = some (.int .i64 (cutI t))
  | [], i, t, h => by simp at h
  | d :: l, 0, t, h => by simp at h; subst h; exact ⟨rfl, rfl⟩
  | d :: l, i + 1, t, h => by
    have ih := wyL_get (l := l) (i := i) (t := t) (by simpa using h)
    rw [show 2 * (i + 1) = 2 * i + 1 + 1 by omega]
    exact ih
theorem zwL_get : ∀ {n j : Nat}, j < n → (zwL n)[2 * j]? = some .nilFunc ∧ (zwL n)[2 * j + 1]? = some (.int .i64 0)
  | 0, j, h => by omega
  | n + 1, 0, h => ⟨rfl, rfl⟩
  | n + 1, j + 1, h => by
    have ih := zwL_get (n := n) (j := j) (by omega)
    rw [show 2 * (j + 1) = 2 * j + 1 + 1 by omega]
    exact ih
/-- The ways while they are made. -/
def wyM (ts : List TieD) (k : Nat) : List Value := wyL (ts.take k) ++ zwL (ts.length - k)
theorem wyM_len (ts : List TieD) (k : Nat) (hk : k ≤ ts.length) : (wyM ts k).length = 2 * ts.length := by
  unfold wyM; rw [List.length_append, wyL_len, zwL_len, List.length_take]; omega
theorem wyM_all (ts : List TieD) : wyM ts ts.length = wyL ts := by unfold wyM; simp [zwL]
theorem wyM_split (ts : List TieD) (k : Nat) (hk : k < ts.length) : wyM ts k = wyL (ts.take k) ++ (.nilFunc :: .int .i64 0 :: zwL (ts.length - (k + 1))) := by
  unfold wyM
  rw [show ts.length - k = (ts.length - (k + 1)) + 1 by omega]; rfl
theorem wyM_get (ts : List TieD) (k : Nat) (hk : k < ts.length) : (wyM ts k)[2 * k]? = some .nilFunc ∧ (wyM ts k)[2 * k + 1]? = some (.int .i64 0) := by
  have hl : (wyL (ts.take k)).length = 2 * k := by rw [wyL_len, List.length_take]; omega
  rw [wyM_split ts k hk]
  refine ⟨?_, ?_⟩
  · rw [List.getElem?_append_right (by omega), hl, Nat.sub_self]; rfl
  · rw [List.getElem?_append_right (by omega), hl, show 2 * k + 1 - 2 * k = 1 by omega]; rfl
theorem wyM_set0 (ts : List TieD) (k : Nat) (hk : k < ts.length) (f : Value) : (wyM ts k).set (2 * k) f = wyL (ts.take k) ++ (f :: .int .i64 0 :: zwL (ts.length - (k + 1))) := by
  have hl : (wyL (ts.take k)).length = 2 * k := by rw [wyL_len, List.length_take]; omega
  rw [wyM_split ts k hk, List.set_append_right _ _ (by omega), hl, Nat.sub_self]; rfl
theorem wyM_next (ts : List TieD) (k : Nat) (hk : k < ts.length) : wyM ts (k + 1) = wyL (ts.take k) ++ (.func (.func 116) #[tieV ts[k]] #[] :: .int .i64 (cutI ts[k]) :: zwL (ts.length - (k + 1))) := by
  unfold wyM
  rw [← List.take_append_getElem hk, wyL_snoc, List.append_assoc]; rfl
theorem wyM_st0 (ts : List TieD) (k : Nat) (hk : k < ts.length) (hc : (ts[k].kind == 1) = false) : (wyM ts k).set (2 * k) (.func (.func 116) #[tieV ts[k]] #[]) = wyM ts (k + 1) := by
  rw [wyM_set0 ts k hk, wyM_next ts k hk, show cutI ts[k] = 0 from by unfold cutI; rw [hc]; rfl]
theorem wyM_st1 (ts : List TieD) (k : Nat) (hk : k < ts.length) (hc : (ts[k].kind == 1) = true) : ((wyM ts k).set (2 * k) (.func (.func 116) #[tieV ts[k]] #[])).set (2 * k + 1) (.int .i64 1) = wyM ts (k + 1) := by
  have hl : (wyL (ts.take k)).length = 2 * k := by rw [wyL_len, List.length_take]; omega
  rw [wyM_set0 ts k hk, wyM_next ts k hk, show cutI ts[k] = 1 from by unfold cutI; rw [hc]; rfl, List.set_append_right _ _ (by omega), hl, show 2 * k + 1 - 2 * k = 1 by omega]; rfl
theorem made_w (n : Nat) : madeCells #[Value.nilFunc, .int .i64 0] (n * 2) = (zwL n).toArray := by
  apply Array.ext_getElem?
  intro i
  by_cases hi : i < n * 2
  · obtain ⟨j, hj⟩ : ∃ j, i = 2 * j ∨ i = 2 * j + 1 := ⟨i / 2, by omega⟩
    obtain ⟨z0, z1⟩ := zwL_get (n := n) (j := j) (by omega)
    rcases hj with rfl | rfl
    · simp only [List.getElem?_toArray]
      refine Eq.trans ?_ z0.symm
      simp [madeCells, hi, show 2 * j % 2 = 0 by omega]
    · simp only [List.getElem?_toArray]
      refine Eq.trans ?_ z1.symm
      simp [madeCells, hi, show (2 * j + 1) % 2 = 1 by omega]
  · rw [Array.getElem?_eq_none (by simp [madeCells]; omega), List.getElem?_toArray, List.getElem?_eq_none (by rw [zwL_len]; omega)]
theorem make_w (n : Nat) (hn : n ≤ 100000) (w : World) : (Instr.makeSlice 103 (.int .i64 (n : Int)) (.int .i64 (n : Int))).run Tryz.prog w = .ok (.slice (some ⟨w.heap.size, 0, none⟩) n n) (w.alloc (.cells (zwL n).toArray 113)) := by
  obtain ⟨i0, hi0, hz0, hz1, hz2⟩ := info_parts infoW
  have hr := run_make (P := Tryz.prog) w 103 113 i0 (.agg #[.nilFunc, .int .i64 0]) Tryz.underlying103 hi0 hz0 .i64 .i64 n n (by omega) (Int.le_refl _) (by rw [hz2]; omega) (by omega)
  simp only [Int.toNat_natCast, hz1, Value.cells] at hr
  rw [← made_w]
  exact hr
theorem TieAt.only {w w' : World} {b g : Nat} {t : TieD} (h : TieAt w b t) (ho : Only g w w') (hne : b ≠ g) : TieAt w' b t := by
  have eq : ∀ o, w'.cell? ⟨b, o, none⟩ = w.cell? ⟨b, o, none⟩ := fun o => by simp only [World.cell?, ho.1 b h.lt hne]
  exact ⟨Nat.lt_of_lt_of_le h.lt ho.2, by rw [eq]; exact h.c0, by rw [eq]; exact h.c1, by rw [eq]; exact h.c2, by rw [eq]; exact h.c3, by rw [eq]; exact h.c4⟩
set_option maxRecDepth 100000 in
set_option maxHeartbeats 4000000 in
theorem ways_any (n : Int) (a : Option Addr) (cap : Nat) (ts : List TieD) (gv : Value) (w : World) (hl : ts.length ≤ 1000) (hs : TiesAt w a ts) :
    Calls Tryz.prog 95 #[.agg #[.int .i64 n, .slice a ts.length cap, gv]] w fun e w' => ∃ g, e = .returned (.slice (some ⟨g, 0, none⟩) ts.length ts.length) ∧ Blk w' g (wyL ts) 113 ∧ w.heap.size ≤ g ∧ Below w.heap.size w w' := by
  have HS := Lib.hid hs
  obtain ⟨m, hm⟩ : ∃ m, m = ts.length := ⟨_, rfl⟩
  have HM := Lib.hid hm
  have HMK : Hid (∀ W, (Instr.makeSlice 103 (.int .i64 (m : Int)) (.int .i64 (m : Int))).run Tryz.prog W = .ok (.slice (some ⟨W.heap.size, 0, none⟩) m m) (W.alloc (.cells (zwL m).toArray 113))) := fun W => make_w m (by omega) W
  rw [← hm] at hl ⊢
  have HB0 := Lib.hid (Blk.new w [.int .i64 n, .slice a m cap, gv] 65)
  have c1 := HB0.out.cell (i := 1) rfl
  have hmk := HMK.out
  have hmf : ∀ (fn : Fn) (first cap : Array Value) (w : World), (Instr.makeFunc fn first cap).run Tryz.prog w = .ok (.func fn first cap) w := fun _ _ _ _ => rfl
  clear hs hm
  go_enter Tryz.func95, Tryz.ntmps95
  go_upto_region 2 with (fail)
  refine named (fun V => Hid (Blk V w.heap.size [.int .i64 n, .slice a m cap, gv] 65) ∧ Hid (Blk V (w.heap.size + 1) (wyM ts 0) 113) ∧ Hid (Below w.heap.size w V)) ?_ ?_
  · have b2 := Blk.new (w.alloc (.cells #[.int .i64 n, .slice a m cap, gv] 65)) (zwL m) 113
    refine ⟨HB0.out.block (Below.heap_alloc _ _ _ (by simp)), ?_, ((Below.refl _ _).alloc (Nat.le_refl _) _).alloc (by simp) _⟩
    have e : wyM ts 0 = zwL m := by unfold wyM; rw [← HM.out]; rfl
    rw [e]; simpa [Hid] using b2
  rintro V0 ⟨HB1, HG, HB⟩
  have HGE : Hid (w.heap.size < w.heap.size + 1) := Nat.lt_succ_self _
  generalize hb1 : w.heap.size = b1 at HB1 HG HGE ⊢
  generalize hg : b1 + 1 = g at HG HGE ⊢
  have HBG : Hid (w.heap.size ≤ g) := by rw [Hid]; omega
  clear hb1 hg hmk HMK c1 HB0
  have c1 := HB1.out.cell (i := 1) rfl
  go_wp2_with fail
  clear c1 HB1
  go_loopg [15] m (fun gk t15 wr => ∃ k : Nat, k + gk = m ∧ t15 = .int .i64 k ∧ Hid (Blk wr g (wyM ts k) 113) ∧ Hid (Below w.heap.size w wr))
  case atStart => exact ⟨0, by omega, rfl, HG, HB⟩
  case round =>
    clear HG HB
    obtain ⟨k, hkg, rfl, HG, HB⟩ := hrel
    by_cases hlt : k < m
    · have hkl : k < ts.length := by rw [← HM.out]; exact hlt
      obtain ⟨lb, lo, rfl, hlb, x0, x1, x2, x3, x4⟩ := (HS.out.below HB.out).at hkl
      have t1 : decide (k < m) = true := decide_eq_true hlt
      have ST0 := Lib.hid (wyM_st0 ts k hkl)
      have ST1 := Lib.hid (wyM_st1 ts k hkl)
      have GC := Lib.hid (wyM_get ts k hkl)
      obtain ⟨y, hy⟩ : ∃ y, y = ts[k] := ⟨_, rfl⟩
      rw [← hy] at x0 x1 x2 x3 x4 ST0 ST1
      clear hy hkl hlb
      obtain ⟨ya, yb, yk, ys, yr⟩ := y
      simp only at x0 x1 x2 x3 x4 ST0 ST1
      go_upto_region 5 with (fail)
      refine named (fun V => Hid (TieAt V wr.heap.size ⟨ya, yb, yk, ys, yr⟩) ∧ Hid (Blk V g (wyM ts k) 113) ∧ Hid (Below w.heap.size w V) ∧ Hid (g < wr.heap.size)) ?_ ?_
      · exact ⟨TieAt.new wr ⟨ya, yb, yk, ys, yr⟩ _, HG.out.block (Below.heap_alloc _ _ _ HG.out.lt), HB.out.alloc HB.out.size _, HG.out.lt⟩
      clear x0 x1 x2 x3 x4 HG HB
      rintro V ⟨HT, HG, HB, HLT⟩
      generalize hbt : wr.heap.size = bt at HT HLT ⊢
      clear hbt
      obtain ⟨_, y0, y1, y2, y3, y4⟩ := HT.out
      simp only at y0 y1 y2 y3 y4
      have z0 := HG.out.cell (i := k * 2) (by rw [Nat.mul_comm]; exact GC.out.1)
      have f0 := HG.out.frozen (k * 2)
      go_upto_region 6 with (fail)
      refine named (fun V2 => Hid (TieAt V2 bt ⟨ya, yb, yk, ys, yr⟩) ∧ Hid (Blk V2 g ((wyM ts k).set (2 * k) (.func (.func 116) #[tieV ⟨ya, yb, yk, ys, yr⟩] #[])) 113) ∧ Hid (Below w.heap.size w V2)) ?_ ?_
      · rw [Nat.mul_comm k 2]
        have o1 : Only g V (V.setCell ⟨g, 2 * k, none⟩ (.func (.func 116) #[tieV ⟨ya, yb, yk, ys, yr⟩] #[])) := (Only.refl g V).set_ _ _
        exact ⟨HT.out.only o1 (Nat.ne_of_gt HLT.out), HG.out.set_ _ _, HB.out.setCell HBG.out _⟩
      clear y0 y1 y2 y3 y4 z0 f0 HT HG HB HLT
      rintro V2 ⟨HT, HG, HB⟩
      obtain ⟨_, y0, y1, y2, y3, y4⟩ := HT.out
      simp only at y0 y1 y2 y3 y4
      have HCU : Hid (∀ W, Calls Tryz.prog 89 #[.agg #[.int .i64 ya, .int .i64 yb, .int .i64 yk, .int .i64 ys, .int .i64 yr]] W fun e w' => e = .returned (.bool (yk == 1)) ∧ Below W.heap.size W w') := fun W => tCut_any ⟨ya, yb, yk, ys, yr⟩ W
      cases hc : (yk == 1) with
      | false =>
        rw [hc] at HCU
        have HN := Lib.hid (ST0.out hc)
        clear hc ST0 ST1
        go_wp2_with (first | (go_at_call 89; refine (HCU.out _).mono ?_; rintro e w3 ⟨rfl, hb⟩; clear HCU y0 y1 y2 y3 y4; replace HG := Lib.hid (HG.out.below hb); replace HB := Lib.hid (HB.out.trans (hb.mono HB.out.size)); clear hb))
        go_roundg (gk - 1)
        case measure => omega
        case rel => exact ⟨k + 1, by omega, by simp, by rw [← HN.out]; exact HG, HB⟩
      | true =>
        rw [hc] at HCU
        have HN := Lib.hid (ST1.out hc)
        have G1 : Hid (((wyM ts k).set (2 * k) (.func (.func 116) #[tieV ⟨ya, yb, yk, ys, yr⟩] #[]))[k * 2 + 1]? = some (.int .i64 0)) := by
          rw [Hid, Nat.mul_comm k 2, List.getElem?_set_ne (by omega)]; exact GC.out.2
        clear hc ST0 ST1
        go_wp2_with (first | (go_at_call 89; refine (HCU.out _).mono ?_; rintro e w3 ⟨rfl, hb⟩; clear HCU y0 y1 y2 y3 y4; replace HG := Lib.hid (HG.out.below hb); replace HB := Lib.hid (HB.out.trans (hb.mono HB.out.size)); clear hb; have z1 := HG.out.cell G1.out; have f1 := HG.out.frozen (k * 2 + 1)))
        have HG2 : Hid (Blk (w3.setCell ⟨g, k * 2 + 1, none⟩ (.int .i64 1)) g (wyM ts (k + 1)) 113) := by
          rw [← HN.out, Nat.mul_comm k 2]; exact HG.out.set_ _ _
        have HB2 : Hid (Below w.heap.size w (w3.setCell ⟨g, k * 2 + 1, none⟩ (.int .i64 1))) := HB.out.setCell HBG.out _
        go_roundg (gk - 1)
        case measure => omega
        case rel => exact ⟨k + 1, by omega, by simp, HG2, HB2⟩
    · have e : m = k := by omega
      subst e
      have t1 : decide (m < m) = false := by simp
      have HGA : Hid (Blk wr g (wyL ts) 113) := by have h := HG.out; rw [HM.out, wyM_all] at h; exact h
      clear HG
      go_wp2_with fail
      go_ret
      exact ⟨g, rfl, HGA.out, HBG.out, HB.out⟩
end Go.Proofs.YthjeiaildabadaaGreat
