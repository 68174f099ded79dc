/- Layer 4: the groups of a valid graph. / Layer 4: Same and Apart. / Layer 4: lists of ties in rows of their own. / Layer 4: the ties of a graph that are so. / Layer 4: Strong and Without of the program. -/
import Derived.Test.YthjeiaildabadaaGreatK2
import Derived.Test.YthjeiaildabadaaGreatIw
/- Layer 4: the groups of a valid graph. -/
namespace Go.Proofs.YthjeiaildabadaaGreat
set_option linter.unusedSimpArgs false
set_option linter.unusedVariables false
open Go Go.RowKit

section
variable {P : Program} {ops : Array Oper} {C : Cl} {L : List Value} {K : Env → Prop} {o : Oper} {rest : List Oper} {E : Env} {d : Nat}
/-- An operation on a value known by a word, that yields another one known by a word. -/
theorem chain_use_re (q2 : Word) (hlq : lasts C q2) (k : Nat) (q : Word) (hr : ∀ w, C.C w → C.R w w) (hd : o.dst = some d) (hsel : ∀ cs b, o.op ≠ .select cs b) (hw : wantB ops o E L = true)
    (hq : lk E k = some (.re q)) (hl : (o.looksAt ops).contains k = true) (he : ∀ x, exB ops o ((k, .ex x) :: E) = true) (h : ∀ x w, q x w → ∃ v, (execOp (evE ((k, .ex x) :: E) L) o).run P w = .ok (.value v) w ∧ q2 v w) (hk : chain P ops C L rest ((d, .re q2) :: E) K) : chain P ops C L (o :: rest) E K :=
  ⟨d, .re q2, hd, hlq, obl_re k q hsel hw hq hl he fun x w hC hx => by
    obtain ⟨v, h1, h2⟩ := h x w hx
    rw [h1]; exact ⟨hr w hC, h2⟩, hk⟩
end
theorem lk_nil (d : Nat) : lk [] d = none := rfl
/-- A block of values. -/
def Blk (W : World) (b : Nat) (cs : List Value) (t : TypeId) : Prop := W.heap[b]? = some (.cells cs.toArray t (0, 0))
theorem Blk.lt {W : World} {g : Nat} {xs : List Value} {t : TypeId} (h : Blk W g xs t) : g < W.heap.size := by
  rcases Nat.lt_or_ge g W.heap.size with hlt | hge
  · exact hlt
  · unfold Blk at h; rw [Array.getElem?_eq_none hge] at h; cases h
theorem Blk.cell {W : World} {g : Nat} {xs : List Value} {t : TypeId} (h : Blk W g xs t) {i : Nat} {x : Value} (hx : xs[i]? = some x) : W.cell? ⟨g, i, none⟩ = some x := by
  unfold Blk at h
  simp only [World.cell?, h]
  simp [hx]
theorem Blk.frozen {W : World} {g : Nat} {xs : List Value} {t : TypeId} (h : Blk W g xs t) (i : Nat) : W.frozen? ⟨g, i, none⟩ = false := by
  unfold Blk at h
  simp [World.frozen?, h]
theorem Blk.set_ {W : World} {g : Nat} {xs : List Value} {t : TypeId} (h : Blk W g xs t) (i : Nat) (u : Value) : Blk (W.setCell ⟨g, i, none⟩ u) g (xs.set i u) t := by
  unfold Blk at h ⊢
  simp [World.setCell, Array.getElem?_modify, h]
theorem Blk.new (W : World) (xs : List Value) (t : TypeId) : Blk (W.alloc (.cells xs.toArray t)) W.heap.size xs t := heap_alloc_new W _
theorem Blk.block {W W' : World} {g : Nat} {xs : List Value} {t : TypeId} (h : Blk W g xs t) (e : W'.heap[g]? = W.heap[g]?) : Blk W' g xs t := by unfold Blk at h ⊢; rw [e]; exact h
theorem Blk.below {W W' : World} {g : Nat} {xs : List Value} {t : TypeId} (h : Blk W g xs t) (hb : Below W.heap.size W W') : Blk W' g xs t := h.block (hb.block g h.lt)
theorem Blk.only {W W' : World} {b g : Nat} {xs : List Value} {t : TypeId} (h : Blk W b xs t) (ho : Only g W W') (hne : b ≠ g) : Blk W' b xs t := h.block (ho.1 b h.lt hne)
theorem NB.only {W W' : World} {b g : Nat} {xs : List Int} (h : NB W b xs) (ho : Only g W W') (hne : b ≠ g) : NB W' b xs := h.block (ho.1 b h.lt hne)
theorem Blk.ne {W : World} {g g' : Nat} {xs : List Value} {t : TypeId} {l : List Int} (h : Blk W g xs t) (h' : NB W g' l) (ht : t ≠ 3) : g ≠ g' := by
  rintro rfl
  unfold Blk at h; unfold NB at h'
  rw [h] at h'
  injection h' with h'
  injection h' with _ h2
  exact ht h2
def gV (n : Int) (a : Option Addr) (len cap : Nat) : Value := .agg #[.int .i64 n, .slice a len cap]
def wkV (n : Int) (a : Option Addr) (len cap g m : Nat) : Value := .agg #[.int .i64 n, .slice a len cap, .slice (some ⟨g, 0, none⟩) m m]
def wkC (n : Int) (a : Option Addr) (len cap g m : Nat) : List Value := [.int .i64 n, .slice a len cap, .slice (some ⟨g, 0, none⟩) m m]
theorem load_g {w : World} {b : Nat} {n : Int} {a : Option Addr} {len cap : Nat} (h0 : w.cell? ⟨b, 0, none⟩ = some (.int .i64 n)) (h1 : w.cell? ⟨b, 1, none⟩ = some (.slice a len cap)) : (Instr.loadAt 24 (.pointer (some ⟨b, 0, none⟩))).run Tryz.prog w = .ok (gV n a len cap) w := by
  simp [go_sem, Instr.loadAt, h0, h1, gV]
/-- A new list of groups. -/
def sgW (N n : Nat) : Word := fun v w => ∃ b, N ≤ b ∧ v = .slice (some ⟨b, 0, none⟩) n n ∧ NB w b (intN (List.range n))
theorem sgW_lasts {w0 : World} (N n : Nat) : lasts (clOld w0) (sgW N n) := fun v w w' _ hb ⟨b, h1, h2, h3⟩ => ⟨b, h1, h2, h3.block (Below.block hb b h3.lt)⟩
def wkW (N n : Nat) (a : Option Addr) (len cap : Nat) : Word := fun v w => ∃ b, N ≤ b ∧ v = wkV n a len cap b n ∧ NB w b (intN (List.range n))
theorem wkW_lasts {w0 : World} (N n : Nat) (a : Option Addr) (len cap : Nat) : lasts (clOld w0) (wkW N n a len cap) := fun v w w' _ hb ⟨b, h1, h2, h3⟩ => ⟨b, h1, h2, h3.block (Below.block hb b h3.lt)⟩
def zvWk : Value := .agg #[.int .i64 0, .slice none 0 0, .slice none 0 0]
theorem zero_wk (w : World) : (zeroValue 65).run Tryz.prog w = .ok zvWk w := by simp [go_sem, zvWk]
set_option maxRecDepth 100000 in
set_option maxHeartbeats 2000000 in
theorem begin_any (n : Nat) (a : Option Addr) (cap : Nat) (ts : List TieD) (w : World) (hn : n ≤ 32) (hl : ts.length ≤ 512) (hv : ∀ t ∈ ts, tieB t n = true) (hs : TiesAt w a ts) :
    Calls Tryz.prog 43 #[gV n a ts.length cap] w fun e w' => ∃ g, e = .returned (wkV n a ts.length cap g n) ∧ w.heap.size ≤ g ∧ NB w' g (grpL n ts) ∧ Below w.heap.size w w' := by
  have HS := Lib.hid hs
  have HV := Lib.hid hv
  obtain ⟨m, hm⟩ : ∃ m, m = ts.length := ⟨_, rfl⟩
  rw [← hm] at hl ⊢
  have HM := Lib.hid hm
  clear hs hm hv
  go_enter Tryz.func43, Tryz.ntmps43
  simp only [gV, wkV]
  go_upto_region 1 with (fail)
  refine named (fun V => Below w.heap.size w V ∧ Blk V w.heap.size [.int .i64 n, .slice a m cap] 24 ∧ Blk V (w.heap.size + 1) [.int .i64 0, .slice none 0 0, .slice none 0 0] 65) ⟨((Below.refl _ _).alloc (Nat.le_refl _) _).alloc (by simp) _, (Blk.new w _ _).block (Below.heap_alloc _ _ _ (by simp)), by have := Blk.new (w.alloc (.cells #[.int .i64 n, .slice a m cap] 24)) [.int .i64 0, .slice none 0 0, .slice none 0 0] 65; simpa using this⟩ ?_
  rintro W0 ⟨FB, K1, K2⟩
  replace FB := Lib.hid FB; replace K1 := Lib.hid K1; replace K2 := Lib.hid K2
  generalize hb1 : w.heap.size = b1 at K1 K2 ⊢
  generalize hb2 : b1 + 1 = b2 at K2 ⊢
  have L1 := Lib.hid hb1; have L2 := Lib.hid hb2
  clear hb1 hb2
  have HSI : Hid (∀ w', Calls Tryz.prog 40 #[.int .i64 n] w' fun e w'' => ∃ u, e = .returned u ∧ Below w'.heap.size w' w'' ∧ (w.heap.size + 2 ≤ w'.heap.size → sgW (w.heap.size + 2) n u w'')) := fun w' => (single_any n w' (by omega)).mono fun e w'' ⟨h1, h2, h3, _⟩ => ⟨_, h1, h3, fun hx => ⟨_, hx, rfl, h2⟩⟩
  have HW0 : Hid (w.heap.size + 2 ≤ W0.drew.heap.size) := by have := K2.out.lt; have h2 := L2.out; have h1 := L1.out; show _ ≤ W0.heap.size; omega
  obtain ⟨N, hN⟩ : ∃ N, N = w.heap.size + 2 := ⟨_, rfl⟩
  rw [← hN] at HSI HW0
  have HNN := Lib.hid hN
  clear hN
  refine wp_region_old2 (Z := (fun e => if e = 65 then zvWk else .bool false)) 6 30 [65] (by kernel_rfl) (by kernel_rfl) (by kernel_rfl) (by kernel_rfl) (by intro e he w; simp only [List.mem_cons, List.not_mem_nil, or_false] at he; rcases he with rfl <;> first | exact zero_wk w) (by rfl) ?_
  simp only [List.take_succ_cons, List.take_zero, List.drop_succ_cons, List.drop_zero, List.drop_nil]
  refine chain_load (.agg #[.int .i64 n, .slice a m cap]) _ _ _ (fun _ _ => Below.refl _ _) rfl rfl (by kernel_rfl) (by kernel_rfl) rfl (fun w1 hC => by have k := K1.out.below (show Below W0.heap.size W0 w1 from old_end (Below.refl _ _) hC (Nat.le_refl _)); exact load_g (k.cell rfl) (k.cell rfl)) ?_
  refine chain_val (.pointer (some ⟨b1, 0, none⟩)) (fun _ _ => Below.refl _ _) rfl (by intro cs b h; cases h) (by kernel_rfl) (by kernel_rfl) (fun w1 _ => by simp [execOp, evE, lk_cons, lk_nil, slotL, go_sem]) ?_
  refine chain_load (.int .i64 n) _ _ _ (fun _ _ => Below.refl _ _) rfl rfl (by kernel_rfl) (by kernel_rfl) rfl (fun w1 hC => by have k := K1.out.below (show Below W0.heap.size W0 w1 from old_end (Below.refl _ _) hC (Nat.le_refl _)); exact load_i64 (k.cell rfl)) ?_
  refine chain_call_re (sgW N n) 40 [.int .i64 n] _ _ (sgW_lasts N n) (enters_of Tryz.func40 (by kernel_rfl) rfl) rfl rfl rfl (by kernel_rfl) (by kernel_rfl) rfl rfl (fun w1 hC => (HSI.out w1).mono fun e w'' ⟨u, h1, h2, h3⟩ => ⟨u, h1, h2, h3 (Nat.le_trans HW0.out (Below.size hC))⟩) ?_
  refine chain_use_re (wkW N n a m cap) (wkW_lasts N n a m cap) 9 (sgW N n) (fun _ _ => Below.refl _ _) rfl (by intro cs b h; cases h) (by kernel_rfl) rfl (by kernel_rfl) (fun _ => rfl) (fun x w1 ⟨b, h1, h2, h3⟩ => ⟨wkV n a m cap b n, by subst h2; simp [execOp, evE, lk_cons, lk_nil, slotL, go_sem, wkV, gV], b, h1, rfl, h3⟩) ?_
  refine chain_alloc 65 zvWk rfl rfl (by kernel_rfl) (by kernel_rfl) (fun w => zero_wk w) ?_
  refine chain_end2 (by rfl) ?_
  intro xs w1 hCw1 hrew1 hNw1
  simp only [layE, List.foldr_cons, List.foldr_nil, List.set_cons_succ, List.set_cons_zero] at hNw1 ⊢
  obtain ⟨p5, hb5⟩ := hrew1 3 ptr_w rfl
  simp only [hb5] at hNw1 ⊢
  obtain ⟨bx5, hx5, hB5, hk5⟩ := hNw1.1 5 _ _ 3 (by decide) (by rfl) (by rfl) rfl rfl rfl
  obtain rfl : p5 = bx5 := by simpa using hx5
  clear hx5
  clear hNw1  hb5
  have HO : Hid (Below W0.heap.size W0 w1) := old_end (Below.refl _ _) hCw1 (Nat.le_refl _)
  obtain ⟨g, hg1, hg2, hg3⟩ := hrew1 10 _ rfl
  simp only [hg2]
  clear hrew1 hg2 hCw1
  have hk5' : Blk w1 p5 [.int .i64 0, .slice none 0 0, .slice none 0 0] 65 := hk5
  clear hk5
  have HP := Lib.hid hk5'
  have HNB := Lib.hid hg3
  have HGP : Hid (p5 ≠ g) := HP.out.ne hg3 (by decide)
  clear hg3 hk5'
  have HJ : Hid (∀ (x : TieD) W, Calls Tryz.prog 41 #[.agg #[.int .i64 x.a, .int .i64 x.b, .int .i64 x.kind, .int .i64 x.str, .int .i64 x.src]] W fun e w' => e = .returned (.bool (x.kind == 2)) ∧ Below W.heap.size W w') := fun x W => tJoin_any x W
  have c0 := HP.out.cell (i := 0) rfl
  have c1 := HP.out.cell (i := 1) rfl
  have c2 := HP.out.cell (i := 2) rfl
  have f0 := HP.out.frozen 0
  have f1 := HP.out.frozen 1
  have f2 := HP.out.frozen 2
  simp only [wkV]
  clear HSI
  go_upto_region 2 with (fail)
  refine named (fun V => Hid (Below w.heap.size w V) ∧ Hid (Blk V b2 [.int .i64 0, .slice none 0 0, .slice none 0 0] 65) ∧ Hid (Blk V p5 [.int .i64 n, .slice a m cap, .slice (some ⟨g, 0, none⟩) n n] 65) ∧ Hid (NB V g (intN (List.range n)))) ?_ ?_
  · have o1 : Only p5 w1 (((w1.setCell ⟨p5, 0, none⟩ (.int .i64 n)).setCell ⟨p5, 1, none⟩ (.slice a m cap)).setCell ⟨p5, 2, none⟩ (.slice (some ⟨g, 0, none⟩) n n)) := (((Only.refl p5 w1).set_ 0 _).set_ 1 _).set_ 2 _
    have hs0 := FB.out.size
    have hp := HO.out.size
    have hq : w.heap.size ≤ p5 := by omega
    refine ⟨(((FB.out.trans (HO.out.mono hs0)).setCell hq _).setCell hq _).setCell hq _, (K2.out.below HO.out).only o1 (by have := K2.out.lt; omega), ?_, HNB.out.only o1 (Ne.symm HGP.out)⟩
    exact ((HP.out.set_ 0 _).set_ 1 _).set_ 2 _
  clear c0 c1 c2 f0 f1 f2 HP HNB HO
  rintro W1 ⟨FB1, K21, HP1, HNB1⟩
  have HP0 : Hid (w.heap.size ≤ p5 ∧ w.heap.size ≤ g ∧ b2 ≠ p5 ∧ b2 ≠ g ∧ w.heap.size ≤ b2) := by
    have := FB.out.size; have := K2.out.lt; have := HNN.out; have h1 := L1.out; have h2 := L2.out
    exact ⟨by omega, by omega, by omega, by omega, by omega⟩
  have c0 := HP1.out.cell (i := 0) rfl
  have c1 := HP1.out.cell (i := 1) rfl
  have c2 := HP1.out.cell (i := 2) rfl
  clear FB K1 K2 L1 L2 hB5 hg1 HW0 HNN
  generalize xs 9 = x9
  go_wp2_with fail
  clear c0 c1 c2
  go_loopg [5, 15] m (fun gk t5 t15 wr => ∃ k : Nat, k + gk = m ∧ t15 = .int .i64 k ∧ Hid (NB wr g (grpL n (ts.take k))) ∧ Hid (Blk wr p5 [.int .i64 n, .slice a m cap, .slice (some ⟨g, 0, none⟩) n n] 65) ∧ Hid (Blk wr b2 [.int .i64 0, .slice none 0 0, .slice none 0 0] 65) ∧ Hid (Below w.heap.size w wr))
  case atStart => exact ⟨0, by omega, rfl, HNB1, HP1, K21, FB1⟩
  case round =>
    obtain ⟨k, hkg, rfl, HG, HP, HK, HB⟩ := hrel
    clear HNB1 HP1 K21 FB1
    by_cases hlt : k < m
    · have hkl : k < ts.length := by rw [← HM.out]; exact hlt
      obtain ⟨lb, lo, rfl, hlb, c0, c1, c2, c3, c4⟩ := (HS.out.below HB.out).at hkl
      have HST := Lib.hid (grpL_step n ts k hkl)
      have hvk := HV.out ts[k] (List.getElem_mem hkl)
      obtain ⟨y, hy⟩ : ∃ y, y = ts[k] := ⟨_, rfl⟩
      rw [← hy] at hvk HST c0 c1 c2 c3 c4
      obtain ⟨ha0, ha1, hb0, hb1, ha2, hb2⟩ := tieB_in hvk
      have HJ2 := Lib.hid fun W => HJ.out y W
      obtain ⟨l, hl0⟩ : ∃ l, l = grpL n (ts.take k) := ⟨_, rfl⟩
      have hll : l.length = n := by rw [hl0]; exact grpL_len n _
      rw [← hl0] at HST HG
      clear hy hkl hl0 HV HJ hvk
      obtain ⟨ya, yb, yk, ys, yr⟩ := y
      simp only at c0 c1 c2 c3 c4 ha0 ha1 hb0 hb1 ha2 hb2 HJ2
      obtain ⟨xa, rfl⟩ := Int.eq_ofNat_of_zero_le ha0
      obtain ⟨xb, rfl⟩ := Int.eq_ofNat_of_zero_le hb0
      have hsz := HB.out.size
      cases hyk : (yk == 2) with
      | false =>
        have HST2 : Hid (grpL n (ts.take (k + 1)) = l) := by rw [Hid, HST.out, grpS]; simp [hyk]
        rw [hyk] at HJ2
        clear hyk HST
        go_wp2_with (first | (go_at_call 41; refine (HJ2.out _).mono ?_; rintro e w5 ⟨rfl, hb5⟩; clear HJ2; have HB5 := Lib.hid hb5; clear hb5))
        go_roundg (gk - 1)
        case measure => omega
        case rel =>
          have hx : Below wr.heap.size wr w5 := ((Below.refl _ _).alloc (Nat.le_refl _) _).trans (HB5.out.mono (by simp))
          exact ⟨k + 1, by omega, by simp, by rw [HST2.out]; exact HG.out.block (hx.block _ HG.out.lt), HP.out.below hx, HK.out.below hx, HB.out.trans (hx.mono hsz)⟩
      | true =>
        have hpx := atI_some (l := l) (i := xa) (by rw [hll]; exact ha2)
        have hpy := atI_some (l := l) (i := xb) (by rw [hll]; exact hb2)
        have HST2 : Hid (grpL n (ts.take (k + 1)) = uniL l (min (atI l xa) (atI l xb)) (max (atI l xa) (atI l xb))) := by rw [Hid, HST.out, grpS]; simp [hyk]
        have HU : Hid (∀ W, NB W g l → Calls Tryz.prog 42 #[.slice (some ⟨g, 0, none⟩) n n, .int .i64 xa, .int .i64 xb] W fun e w' => (∃ r, e = .returned (.bool r)) ∧ NB w' g (grpL n (ts.take (k + 1))) ∧ Only g W w' ∧ (∀ B, B ≤ g → Below B W w')) := fun W hW => by
          have := unite_any g l xa xb _ _ W (by omega) hW hpx hpy
          rw [hll] at this
          rw [HST2.out]
          exact this
        rw [hyk] at HJ2
        clear hyk HST hpx hpy HST2 hll
        go_wp2_with (first | (go_at_call 41; refine (HJ2.out _).mono ?_; rintro e w5 ⟨rfl, hb5⟩; clear HJ2; have HB5 := Lib.hid hb5; obtain ⟨_, d0, d1, d2, d3, d4⟩ := (TieAt.new wr ⟨xa, xb, yk, ys, yr⟩ 54).below hb5; simp only at d0 d1 d2 d3 d4; have HX : Hid (Below wr.heap.size wr w5) := ((Below.refl _ _).alloc (Nat.le_refl _) _).trans (hb5.mono (by simp)); have e2 := (HP.out.below HX.out).cell (i := 2) rfl; clear hb5) | (go_at_call 42; refine (HU.out _ (HG.out.block (HX.out.block _ HG.out.lt))).mono ?_; rintro e w6 ⟨⟨r, rfl⟩, hu1, hu2, hu3⟩; clear HU; have HU1 := Lib.hid hu1; have HU2 := Lib.hid hu2; have HU3 := Lib.hid hu3; clear hu1 hu2 hu3))
        go_roundg (gk - 1)
        case measure => omega
        case rel =>
          exact ⟨k + 1, by omega, by simp, HU1.out, (HP.out.below HX.out).only HU2.out HGP.out, (HK.out.below HX.out).only HU2.out HP0.out.2.2.2.1, (HB.out.trans (HX.out.mono hsz)).trans (HU3.out _ HP0.out.2.1)⟩
    · have e : k = m := by omega
      subst e
      have HR : Hid (NB wr g (grpL n ts)) := by
        have := HG.out
        rwa [List.take_of_length_le (by rw [← HM.out]; omega)] at this
      have c0 := HP.out.cell (i := 0) rfl
      have c1 := HP.out.cell (i := 1) rfl
      have c2 := HP.out.cell (i := 2) rfl
      have d0 := HK.out.cell (i := 0) rfl
      have d1 := HK.out.cell (i := 1) rfl
      have d2 := HK.out.cell (i := 2) rfl
      have f0 := HK.out.frozen 0
      have f1 := HK.out.frozen 1
      have f2 := HK.out.frozen 2
      go_wp2_with fail
      refine named (fun V => Blk V b2 [.int .i64 n, .slice a k cap, .slice (some ⟨g, 0, none⟩) n n] 65 ∧ NB V g (grpL n ts) ∧ Below w.heap.size w V) ?_ ?_
      · have o1 : Only b2 wr (((wr.setCell ⟨b2, 0, none⟩ (.int .i64 n)).setCell ⟨b2, 1, none⟩ (.slice a k cap)).setCell ⟨b2, 2, none⟩ (.slice (some ⟨g, 0, none⟩) n n)) := (((Only.refl b2 wr).set_ 0 _).set_ 1 _).set_ 2 _
        have hq := HP0.out.2.2.2.2
        exact ⟨((HK.out.set_ 0 _).set_ 1 _).set_ 2 _, HR.out.only o1 (Ne.symm HP0.out.2.2.2.1), ((HB.out.setCell hq _).setCell hq _).setCell hq _⟩
      rintro V ⟨V1, V2, V3⟩
      have e0 := V1.cell (i := 0) rfl
      have e1 := V1.cell (i := 1) rfl
      have e2 := V1.cell (i := 2) rfl
      refine bodyPost_ret (v := .agg #[.int .i64 n, .slice a k cap, .slice (some ⟨g, 0, none⟩) n n]) (by simp [results, Tryz.results43, go_sem, e0, e1, e2]) rfl ?_
      exact ⟨g, rfl, HP0.out.2.1, V2, V3⟩
theorem field_wk (n : Int) (a : Option Addr) (len cap : Nat) (v : Value) (w : World) : (Instr.field 65 (.agg #[.int .i64 n, .slice a len cap, v]) 1).run Tryz.prog w = .ok v w := by
  cases v <;> kernel_rfl
attribute [local go_sem] field_wk
set_option maxRecDepth 100000 in
set_option maxHeartbeats 2000000 in
theorem tGroups_any (n : Int) (a : Option Addr) (cap : Nat) (ts : List TieD) (w : World) (hl : ts.length ≤ 9223372036854775807) (hs : TiesAt w a ts) :
    Calls Tryz.prog 35 #[gV n a ts.length cap] w fun e w' => ∃ r c, e = .returned (.tuple #[.slice r (if okG n ts then grpL n.toNat ts else []).length c, .int .i64 (errG n ts)]) ∧ IntsAt w' r (if okG n ts then grpL n.toNat ts else []) ∧ Below w.heap.size w w' := by
  have HC : Hid (∀ W, Below w.heap.size w W → Calls Tryz.prog 24 #[gV n a ts.length cap] W fun e w' => e = .returned (.int .i64 (errG n ts)) ∧ Below W.heap.size W w') := fun W hb => tCheck_any n a cap ts W hl (hs.below hb)
  have HBE : Hid (okG n ts = true → ∃ x : Nat, n = x ∧ x ≤ 32 ∧ ∀ W, Below w.heap.size w W → Calls Tryz.prog 43 #[gV x a ts.length cap] W fun e w' => ∃ g, e = .returned (wkV x a ts.length cap g x) ∧ W.heap.size ≤ g ∧ NB w' g (grpL x ts) ∧ Below W.heap.size W w') := fun h => by
    unfold okG ftB at h
    simp only [Bool.and_eq_true, decide_eq_true_eq] at h
    obtain ⟨x, rfl⟩ := Int.eq_ofNat_of_zero_le (by omega : 0 ≤ n)
    exact ⟨x, rfl, by omega, fun W hb => begin_any x a cap ts W (by omega) h.1.2 (fun t ht => List.all_eq_true.1 h.2 t ht) (hs.below hb)⟩
  obtain ⟨m, hm⟩ : ∃ m, m = ts.length := ⟨_, rfl⟩
  unfold errG at HC ⊢
  rw [← hm] at hl HC HBE ⊢
  clear hm hs
  cases hok : okG n ts with
  | false =>
    rw [hok] at HC
    clear HBE hok
    go_enter Tryz.func35, Tryz.ntmps35
    simp only [gV] at HC ⊢
    go_wp2_with (first | (go_at_call 24; refine (HC.out _ ((Below.refl _ _).alloc (Nat.le_refl _) _)).mono ?_; rintro e w1 ⟨rfl, hb⟩; clear HC; have HB1 := Lib.hid hb; clear hb; simp only [Bool.false_eq_true, if_false]))
    go_ret2
    exact ⟨none, ⟨0, rfl⟩, .inl rfl, ((Below.refl _ _).alloc (Nat.le_refl _) _).trans (HB1.out.mono (by simp))⟩
  | true =>
    obtain ⟨x, rfl, hx, hbe⟩ := HBE.out hok
    rw [hok] at HC
    have HL : Hid ((grpL x ts).length = x) := grpL_len x ts
    have HB := Lib.hid hbe
    clear HBE hbe hok
    simp only [Int.toNat_natCast, if_true, HL.out]
    go_enter Tryz.func35, Tryz.ntmps35
    simp only [gV, wkV] at HC HB ⊢
    go_wp2_with (first | (go_at_call 24; refine (HC.out _ ((Below.refl _ _).alloc (Nat.le_refl _) _)).mono ?_; rintro e w1 ⟨rfl, hb⟩; clear HC; have c0 := ((Blk.new w [.int .i64 x, .slice a m cap] 24).below hb).cell (i := 0) rfl; have c1 := ((Blk.new w [.int .i64 x, .slice a m cap] 24).below hb).cell (i := 1) rfl; have HB1 : Hid (Below w.heap.size w w1) := ((Below.refl _ _).alloc (Nat.le_refl _) _).trans (hb.mono (by simp)); clear hb; simp only [if_true]) | (go_at_call 43; refine (HB.out _ HB1.out).mono ?_; rintro e w2 ⟨g, rfl, hg1, hg2, hb⟩; clear HB; have HG2 := Lib.hid hg2; have HB2 := Lib.hid (HB1.out.trans (hb.mono HB1.out.size)); clear hb hg1 hg2))
    go_ret2
    first | exact ⟨_, ⟨_, rfl⟩, HG2.out.ints, HB2.out⟩ | exact ⟨_, _, rfl, HG2.out.ints, HB2.out⟩
end Go.Proofs.YthjeiaildabadaaGreat
/- Layer 4: Same and Apart. -/
namespace Go.Proofs.YthjeiaildabadaaGreat
set_option linter.unusedSimpArgs false
set_option linter.unusedVariables false
open Go Go.RowKit

def errA (n : Int) (ts : List TieD) (a b : Int) : Int := if okG n ts then (if ftB a 0 (n - 1) && ftB b 0 (n - 1) then 0 else 1) else 40
set_option maxRecDepth 100000 in
set_option maxHeartbeats 2000000 in
theorem tPair_any (n : Int) (a : Option Addr) (cap : Nat) (ts : List TieD) (x y : Int) (w : World) (hl : ts.length ≤ 9223372036854775807) (hs : TiesAt w a ts) :
    Calls Tryz.prog 50 #[gV n a ts.length cap, .int .i64 x, .int .i64 y] w fun e w' => e = .returned (.int .i64 (errA n ts x y)) ∧ Below w.heap.size w w' := by
  have HC : Hid (∀ W, Below w.heap.size w W → Calls Tryz.prog 24 #[gV n a ts.length cap] W fun e w' => e = .returned (.int .i64 (errG n ts)) ∧ Below W.heap.size W w') := fun W hb => tCheck_any n a cap ts W hl (hs.below hb)
  have HBE : Hid (okG n ts = true → ∃ x : Nat, n = x ∧ 1 ≤ n ∧ n ≤ 32) := fun h => by
    unfold okG ftB at h
    simp only [Bool.and_eq_true, decide_eq_true_eq] at h
    obtain ⟨x, rfl⟩ := Int.eq_ofNat_of_zero_le (by omega : 0 ≤ n)
    exact ⟨x, rfl, by omega, by omega⟩
  obtain ⟨m, hm⟩ : ∃ m, m = ts.length := ⟨_, rfl⟩
  unfold errG at HC
  unfold errA
  rw [← hm] at hl HC ⊢
  clear hm hs
  cases hok : okG n ts with
  | false =>
    rw [hok] at HC
    clear HBE hok
    go_enter Tryz.func50, Tryz.ntmps50
    simp only [gV] at HC ⊢
    go_wp2_with (first | (go_at_call 24; refine (HC.out _ ((Below.refl _ _).alloc (Nat.le_refl _) _)).mono ?_; rintro e w1 ⟨rfl, hb⟩; clear HC; have HB1 := Lib.hid hb; clear hb; simp only [Bool.false_eq_true, if_false]))
    go_ret
    exact ⟨rfl, ((Below.refl _ _).alloc (Nat.le_refl _) _).trans (HB1.out.mono (by simp))⟩
  | true =>
    obtain ⟨_, -, h1, h2⟩ := HBE.out hok
    rw [hok] at HC
    have HN : Hid (∀ x w, Calls Tryz.prog 82 #[.int .i64 x, .int .i64 n] w fun e w' => e = .returned (.bool (ftB x 0 (n - 1))) ∧ w = w') := fun x w => tNode_any x n w ⟨h1, h2⟩
    clear HBE hok h1 h2
    simp only [if_true]
    have hc : (ftB x 0 (n - 1) = false ∧ (if (ftB x 0 (n - 1) && ftB y 0 (n - 1)) = true then (0 : Int) else 1) = 1) ∨ (ftB x 0 (n - 1) = true ∧ ftB y 0 (n - 1) = false ∧ (if (ftB x 0 (n - 1) && ftB y 0 (n - 1)) = true then (0 : Int) else 1) = 1) ∨ (ftB x 0 (n - 1) = true ∧ ftB y 0 (n - 1) = true ∧ (if (ftB x 0 (n - 1) && ftB y 0 (n - 1)) = true then (0 : Int) else 1) = 0) := by
      cases ftB x 0 (n - 1) <;> cases ftB y 0 (n - 1) <;> simp
    rcases hc with ⟨q1, hr⟩ | ⟨q1, q2, hr⟩ | ⟨q1, q2, hr⟩
    all_goals (
      rw [hr]
      clear hr
      go_enter Tryz.func50, Tryz.ntmps50
      simp only [gV] at HC ⊢
      go_wp2_with (first | (go_at_call 24; refine (HC.out _ ((Below.refl _ _).alloc (Nat.le_refl _) _)).mono ?_; rintro e w1 ⟨rfl, hb⟩; clear HC; have c0 := ((Blk.new w [.int .i64 n, .slice a m cap] 24).below hb).cell (i := 0) rfl; have HB1 := Lib.hid hb; clear hb; simp only [if_true]) | (go_at_call 82; refine (HN.out _ _).mono ?_; rintro e w' ⟨rfl, rfl⟩; (try simp only [q1]); (try simp only [q2])))
      go_ret
      exact ⟨rfl, ((Below.refl _ _).alloc (Nat.le_refl _) _).trans (HB1.out.mono (by simp))⟩)
set_option maxRecDepth 100000 in
set_option maxHeartbeats 1000000 in
theorem joined_any (g : Nat) (l : List Int) (x y : Nat) (w : World) (hl : l.length ≤ 1000) (hg : NB w g l) (hx : x < l.length) (hy : y < l.length) :
    Calls Tryz.prog 45 #[.slice (some ⟨g, 0, none⟩) l.length l.length, .int .i64 x, .int .i64 y] w fun e w' => e = .returned (.bool (atI l x == atI l y)) ∧ Below w.heap.size w w' := by
  have hpx := atI_some (l := l) (i := (x : Int)) hx
  have hpy := atI_some (l := l) (i := (y : Int)) hy
  rw [Int.toNat_natCast] at hpx hpy
  have HXL := Lib.hid hx
  have HYL := Lib.hid hy
  obtain ⟨p, hp⟩ : ∃ p, p = atI l x := ⟨_, rfl⟩
  obtain ⟨q, hq⟩ : ∃ q, q = atI l y := ⟨_, rfl⟩
  rw [← hp] at hpx ⊢
  rw [← hq] at hpy ⊢
  have HCX : Hid (∀ W, Old w.drew W → W.cell? ⟨g, x, none⟩ = some (.int .i64 p)) := fun W h => by rw [Below.cell h (by exact hg.lt)]; exact hg.cell hpx
  have HCY : Hid (∀ W, Old w.drew W → W.cell? ⟨g, y, none⟩ = some (.int .i64 q)) := fun W h => by rw [Below.cell h (by exact hg.lt)]; exact hg.cell hpy
  obtain ⟨n, hn⟩ : ∃ n, n = l.length := ⟨_, rfl⟩
  rw [← hn] at hl HXL HYL ⊢
  clear hn hg hx hy hpx hpy hp hq
  obtain ⟨v, hv⟩ : ∃ v, v = (p == q) := ⟨_, rfl⟩
  rw [← hv]
  have HV : Hid (v = decide (p = q)) := by rw [Hid, hv]; rfl
  clear hv
  go_enter Tryz.func45, Tryz.ntmps45
  go_upto_region 1 with (fail)
  refine wp_region_old 10 16 (by kernel_rfl) (by kernel_rfl) (by rfl) ?_
  simp only [List.take_succ_cons, List.take_zero, List.drop_succ_cons, List.drop_zero, List.drop_nil]
  refine chain_move (.slice (some ⟨g, 0, none⟩) n n) _ (fun _ _ => Below.refl _ _) rfl rfl (by kernel_rfl) (by kernel_rfl) rfl ?_
  refine chain_move (.int .i64 x) _ (fun _ _ => Below.refl _ _) rfl rfl (by kernel_rfl) (by kernel_rfl) rfl ?_
  refine chain_idx (.pointer (some ⟨g, 0 + x, none⟩)) _ _ _ (.slice (some ⟨g, 0, none⟩) n n) (.int .i64 x) (fun _ _ => Below.refl _ _) rfl rfl (by kernel_rfl) (by kernel_rfl) rfl rfl (fun w1 => idx_grp _ _ _ _ _ HXL.out w1) ?_
  refine chain_load (.int .i64 p) _ _ _ (fun _ _ => Below.refl _ _) rfl rfl (by kernel_rfl) (by kernel_rfl) rfl (fun w1 hC => load_i64 (by rw [Nat.zero_add]; exact HCX.out _ hC)) ?_
  refine chain_move (.slice (some ⟨g, 0, none⟩) n n) _ (fun _ _ => Below.refl _ _) rfl rfl (by kernel_rfl) (by kernel_rfl) rfl ?_
  refine chain_move (.int .i64 y) _ (fun _ _ => Below.refl _ _) rfl rfl (by kernel_rfl) (by kernel_rfl) rfl ?_
  refine chain_idx (.pointer (some ⟨g, 0 + y, none⟩)) _ _ _ (.slice (some ⟨g, 0, none⟩) n n) (.int .i64 y) (fun _ _ => Below.refl _ _) rfl rfl (by kernel_rfl) (by kernel_rfl) rfl rfl (fun w1 => idx_grp _ _ _ _ _ HYL.out w1) ?_
  refine chain_load (.int .i64 q) _ _ _ (fun _ _ => Below.refl _ _) rfl rfl (by kernel_rfl) (by kernel_rfl) rfl (fun w1 hC => load_i64 (by rw [Nat.zero_add]; exact HCY.out _ hC)) ?_
  refine chain_bin (.bool v) _ _ _ _ _ (.int .i64 p) (.int .i64 q) (fun _ _ => Below.refl _ _) rfl rfl (by kernel_rfl) (by kernel_rfl) rfl rfl (fun w1 => eql_i64 _ _ _ _ _ _ HV.out w1) ?_
  refine chain_assign (.bool v) _ (fun _ _ => Below.refl _ _) rfl rfl (by kernel_rfl) (by kernel_rfl) rfl ?_
  refine chain_end (by rfl) ?_
  intro xs w1 hCw1 hrew1
  simp only [layE, List.foldr_cons, List.foldr_nil, List.set_cons_succ, List.set_cons_zero]
  have HO : Hid (Below w.heap.size w w1) := old_end (Below.refl w.heap.size w) hCw1 (Nat.le_refl _)
  clear hCw1 hrew1
  go_wp2_with fail
  go_ret
  exact ⟨rfl, HO.out⟩
end Go.Proofs.YthjeiaildabadaaGreat
/- Layer 4: lists of ties in rows of their own. -/
namespace Go.Proofs.YthjeiaildabadaaGreat
set_option linter.unusedSimpArgs false
set_option linter.unusedVariables false
open Go Go.RowKit

theorem own_below {W W' : World} {base : Nat} {e : TypeId} {size : Nat} {v : Value} {n : Nat} {xs : List Value} (h : W.ownsRow base e size v n xs) (hb : Below W.heap.size W W') : W'.ownsRow base e size v n xs :=
  ⟨h.1, h.2.imp id fun ⟨g, cap, cur, h1, h2, h3, h4⟩ => ⟨g, cap, cur, h1, h2, (hb.block g (Array.getElem?_eq_some_iff.1 h3).1).trans h3, h4⟩⟩
theorem addr_plain (b o n : Nat) : (⟨b, o, none⟩ : Addr).add n = ⟨b, o + n, none⟩ := by unfold Addr.add; split <;> simp_all
def tvC (t : TieD) : List Value := [.int .i64 t.a, .int .i64 t.b, .int .i64 t.kind, .int .i64 t.str, .int .i64 t.src]
def tvL : List TieD → List Value
  | [] => []
  | t :: l => tvC t ++ tvL l
theorem tvL_len : ∀ l, (tvL l).length = l.length * 5
  | [] => rfl
  | t :: l => by simp [tvL, tvC, tvL_len l]; omega
theorem tvL_snoc : ∀ (l : List TieD) (t : TieD), tvL (l ++ [t]) = tvL l ++ tvC t
  | [], t => by simp [tvL]
  | d :: l, t => by simp [tvL, tvL_snoc l t]
theorem tvL_get : ∀ {l : List TieD} {i : Nat} {t : TieD}, l[i]? = some t → ∀ {j : Nat} {u : Value}, (tvC t)[j]? = some u → (tvL l)[i * 5 + j]? = some u
  | [], i, t, h, j, u, hu => by simp at h
  | d :: l, 0, t, h, j, u, hu => by
    simp at h; subst h
    have hj : j < (tvC d).length := (List.getElem?_eq_some_iff.1 hu).1
    rw [Nat.zero_mul, Nat.zero_add]
    unfold tvL
    rw [List.getElem?_append_left hj]; exact hu
  | d :: l, i + 1, t, h, j, u, hu => by
    have ih := tvL_get (l := l) (i := i) (t := t) (by simpa using h) hu
    have hl : (tvC d).length = 5 := rfl
    unfold tvL
    rw [List.getElem?_append_right (by omega), hl, show (i + 1) * 5 + j - 5 = i * 5 + j by omega]
    exact ih
theorem infoT : (Tryz.prog.info? 54).map (fun i => (i.zero, i.size, i.bytes)) = some (some (.agg #[.int .i64 0, .int .i64 0, .int .i64 0, .int .i64 0, .int .i64 0]), 5, 40) := by kernel_rfl
theorem own_ties {W : World} {base : Nat} {v : Value} {k : Nat} {l : List TieD} (h : W.ownsRow base 54 5 v k (tvL l)) : ∃ a cap, v = .slice a l.length cap ∧ k = l.length ∧ TiesAt W a l := by
  obtain ⟨hl, h⟩ := h
  rw [tvL_len] at hl
  have hl : k = l.length := by omega
  subst hl
  rcases h with ⟨rfl, h0⟩ | ⟨g, cap, cur, rfl, hg, hb, h1, h2, h3, h4⟩
  · exact ⟨none, 0, by rw [h0], rfl, .inl (List.length_eq_zero_iff.1 h0)⟩
  · have key : ∀ {j : Nat} {u : Value}, (tvL l)[j]? = some u → W.cell? ⟨g, j, none⟩ = some u := fun {j u} h5 => by
      rw [← h4, List.getElem?_take] at h5
      split at h5
      · simp only [World.cell?, hb]
        rw [← Array.getElem?_toList]; exact h5
      · cases h5
    refine ⟨some ⟨g, 0, none⟩, cap, rfl, rfl, .inr ⟨g, 0, rfl, (Array.getElem?_eq_some_iff.1 hb).1, fun i t hi => ?_⟩⟩
    rw [Nat.zero_add]
    exact ⟨key (tvL_get hi (j := 0) rfl), key (tvL_get hi (j := 1) rfl), key (tvL_get hi (j := 2) rfl), key (tvL_get hi (j := 3) rfl), key (tvL_get hi (j := 4) rfl)⟩
/-- A new slice of one tie. -/
def tieW (t : TieD) : Word := fun v w => ∃ b, v = .slice (some ⟨b, 0, none⟩) 1 1 ∧ TieAt w b t
theorem tieW_lasts {w0 : World} (t : TieD) : lasts (clOld w0) (tieW t) := fun v w w' _ hR ⟨b, hv, h⟩ => ⟨b, hv, h.below hR⟩
theorem tieW_new {w0 w : World} {t : TieD} {ρ : Operand → Value} {o : Oper} (h : (execOp ρ o).run Tryz.prog w = .ok (.value (.slice (some ⟨w.heap.size, 0, none⟩) 1 1)) (w.alloc (.cells #[.int .i64 t.a, .int .i64 t.b, .int .i64 t.kind, .int .i64 t.str, .int .i64 t.src] 54))) (hC : (clOld w0).C w) :
    ∃ u w', (execOp ρ o).run Tryz.prog w = .ok (.value u) w' ∧ (clOld w0).R w w' ∧ tieW t u w' :=
  ⟨_, _, h, (Below.refl _ _).alloc (Nat.le_refl _) _, _, rfl, TieAt.new w t _⟩
theorem tie_cells {w : World} {b : Nat} {t : TieD} (h : TieAt w b t) : ∀ (j : Nat) (u : Value), (tvC t)[j]? = some u → w.cell? ((⟨b, 0, none⟩ : Addr).add j) = some u := fun j u hj => by
  rw [addr_plain, Nat.zero_add]
  match j, hj with
  | 0, hj => have e : some (Value.int .i64 t.a) = some u := hj; rw [← e]; exact h.c0
  | 1, hj => have e : some (Value.int .i64 t.b) = some u := hj; rw [← e]; exact h.c1
  | 2, hj => have e : some (Value.int .i64 t.kind) = some u := hj; rw [← e]; exact h.c2
  | 3, hj => have e : some (Value.int .i64 t.str) = some u := hj; rw [← e]; exact h.c3
  | 4, hj => have e : some (Value.int .i64 t.src) = some u := hj; rw [← e]; exact h.c4
theorem own_slice {W : World} {base : Nat} {e : TypeId} {size : Nat} {v : Value} {n : Nat} {xs : List Value} (h : W.ownsRow base e size v n xs) : ∃ a cap, v = .slice a n cap := by
  rcases h.2 with ⟨rfl, rfl⟩ | ⟨g, cap, cur, rfl, _⟩
  · exact ⟨_, _, rfl⟩
  · exact ⟨_, _, rfl⟩
theorem load_slq {w : World} {b o : Nat} {a : Option Addr} {len cap : Nat} (h : w.cell? ⟨b, o, none⟩ = some (.slice a len cap)) : (Instr.loadAt 22 (.pointer (some ⟨b, o, none⟩))).run Tryz.prog w = .ok (.slice a len cap) w := by
  simp [go_sem, Instr.loadAt, h]
/-- The graph that a walk builds: its ties in a row of their own, which a block holds. -/
structure HGr (w : World) (B b5 : Nat) (n : Int) (ts : List TieD) (W : World) : Prop where
  own : ∃ tv, W.ownsRow B 54 5 tv ts.length (tvL ts) ∧ Blk W b5 [.int .i64 n, tv] 24
  old : Below w.heap.size w W
theorem HGr.below {w W W' : World} {B b5 : Nat} {n : Int} {ts : List TieD} (h : HGr w B b5 n ts W) (hb : Below W.heap.size W W') : HGr w B b5 n ts W' := by
  obtain ⟨tv, h1, h2⟩ := h.own
  exact ⟨⟨tv, own_below h1 hb, h2.below hb⟩, h.old.trans (hb.mono h.old.size)⟩
/-- The cells of a slice of ties, in a new block. -/
def TiesNew (B : Nat) (w : World) (a : Option Addr) (ts : List TieD) : Prop := TiesAt w a ts ∧ (ts = [] ∨ ∃ b o, a = some ⟨b, o, none⟩ ∧ B ≤ b)
theorem TiesNew.nil (B : Nat) (w : World) (a : Option Addr) : TiesNew B w a [] := ⟨.inl rfl, .inl rfl⟩
theorem TiesNew.below {B : Nat} {w w' : World} {a : Option Addr} {ts : List TieD} (h : TiesNew B w a ts) (hb : Below w.heap.size w w') : TiesNew B w' a ts := ⟨h.1.below hb, h.2⟩
theorem TiesNew.mono {B B' : Nat} {w : World} {a : Option Addr} {ts : List TieD} (h : TiesNew B w a ts) (hb : B' ≤ B) : TiesNew B' w a ts :=
  ⟨h.1, h.2.imp id fun ⟨b, o, h1, h2⟩ => ⟨b, o, h1, Nat.le_trans hb h2⟩⟩
theorem TiesNew.only {B g : Nat} {w w' : World} {a : Option Addr} {ts : List TieD} (h : TiesNew B w a ts) (ho : Only g w w') (hg : g < B) : TiesNew B w' a ts := by
  refine ⟨?_, h.2⟩
  rcases h.2 with h2 | ⟨b, o, rfl, h2⟩
  · exact .inl h2
  · rcases h.1 with h1 | ⟨b', o', e, hlt, h1⟩
    · exact .inl h1
    · simp only [Option.some.injEq, Addr.mk.injEq, and_true] at e
      obtain ⟨rfl, rfl⟩ := e
      have eq : ∀ o, w'.cell? ⟨b, o, none⟩ = w.cell? ⟨b, o, none⟩ := fun o => by simp only [World.cell?, ho.1 b hlt (by omega)]
      refine .inr ⟨b, o, rfl, Nat.lt_of_lt_of_le hlt ho.2, fun i t hi => ?_⟩
      obtain ⟨c0, c1, c2, c3, c4⟩ := h1 i t hi
      exact ⟨by rw [eq]; exact c0, by rw [eq]; exact c1, by rw [eq]; exact c2, by rw [eq]; exact c3, by rw [eq]; exact c4⟩
theorem own_tiesN {W : World} {base : Nat} {v : Value} {k : Nat} {l : List TieD} (h : W.ownsRow base 54 5 v k (tvL l)) : ∃ a cap, v = .slice a l.length cap ∧ k = l.length ∧ TiesNew base W a l := by
  obtain ⟨a, cap, rfl, hk, hT⟩ := own_ties h
  refine ⟨a, cap, rfl, hk, hT, ?_⟩
  obtain ⟨hl, hh⟩ := h
  rcases hh with ⟨e, h0⟩ | ⟨g, cap', cur, e, hg, _⟩
  · exact .inl (List.length_eq_zero_iff.1 (by omega))
  · injection e with e1
    exact .inr ⟨g, 0, e1, hg⟩
/-- What a function that returns a graph and an error leaves. -/
def GRes (n : Int) (ts : List TieD) (er : Int) (w : World) : Ending → World → Prop := fun e w' => ∃ a c, e = .returned (.tuple #[gV n a ts.length c, .int .i64 er]) ∧ TiesNew w.heap.size w' a ts ∧ Below w.heap.size w w'
/-- What a function that returns a graph leaves. -/
def GRet (n : Int) (ts : List TieD) (w : World) : Ending → World → Prop := fun e w' => ∃ a c, e = .returned (gV n a ts.length c) ∧ TiesNew w.heap.size w' a ts ∧ Below w.heap.size w w'
end Go.Proofs.YthjeiaildabadaaGreat
/- Layer 4: the ties of a graph that are so. -/
namespace Go.Proofs.YthjeiaildabadaaGreat
set_option linter.unusedSimpArgs false
set_option linter.unusedVariables false
open Go Go.RowKit

theorem filt_step {p : TieD → Bool} {ts : List TieD} {k : Nat} (hk : k < ts.length) : (p ts[k] = true → (ts.take (k + 1)).filter p = (ts.take k).filter p ++ [ts[k]]) ∧ (p ts[k] = false → (ts.take (k + 1)).filter p = (ts.take k).filter p) := by
  rw [← List.take_append_getElem hk, List.filter_append]
  refine ⟨fun h => by simp [h], fun h => by simp [h]⟩
set_option maxRecDepth 100000 in
set_option maxHeartbeats 4000000 in
theorem having_strong (p : TieD → Bool) (bc : Nat) (n : Int) (a : Option Addr) (cap : Nat) (ts : List TieD) (w : World) (hl : ts.length ≤ 1000) (hs : TiesAt w a ts)
    (hK : ∀ t W, t ∈ ts → Below w.heap.size w W → Calls Tryz.prog 86 #[tieV t, .pointer (some ⟨bc, 0, none⟩)] W fun e w' => e = .returned (.bool (p t)) ∧ Below W.heap.size W w') :
    Calls Tryz.prog 51 #[gV n a ts.length cap, .func (.func 86) #[] #[.pointer (some ⟨bc, 0, none⟩)]] w (GRet n (ts.filter p) w) := by
  have HS := Lib.hid hs
  have HK := Lib.hid hK
  unfold GRet
  obtain ⟨m, hm⟩ : ∃ m, m = ts.length := ⟨_, rfl⟩
  rw [← hm] at hl ⊢
  have HM := Lib.hid hm
  clear hs hm hK
  obtain ⟨i0, hi0, hz0, hz1, hz2⟩ := info_parts infoT
  go_enter Tryz.func51, Tryz.ntmps51
  simp only [gV]
  go_upto_region 2 with (fail)
  refine named (fun V => Hid (Below w.heap.size w V) ∧ Hid (Blk V w.heap.size [.int .i64 n, .slice a m cap] 24) ∧ Hid (Blk V (w.heap.size + 1) [.int .i64 0, .slice none 0 0] 24) ∧ Hid (Blk V (w.heap.size + 1 + 1) [.int .i64 n, .slice none 0 0] 24) ∧ Hid (w.heap.size + 3 ≤ V.heap.size)) ?_ ?_
  · have b1 := Blk.new w [.int .i64 n, .slice a m cap] 24
    have b2 := Blk.new (w.alloc (.cells #[.int .i64 n, .slice a m cap] 24)) [.int .i64 0, .slice none 0 0] 24
    have b3 := Blk.new ((w.alloc (.cells #[.int .i64 n, .slice a m cap] 24)).alloc (.cells #[.int .i64 0, .slice none 0 0] 24)) [.int .i64 n, .slice none 0 0] 24
    refine ⟨(((Below.refl _ _).alloc (Nat.le_refl _) _).alloc (by simp) _).alloc (by simp; omega) _, (b1.block (Below.heap_alloc _ _ _ (by simp))).block (Below.heap_alloc _ _ _ (by simp; omega)), ?_, ?_, by simp [Hid]⟩
    · have := b2.block (Below.heap_alloc _ (.cells #[.int .i64 n, .slice none 0 0] 24) _ b2.lt)
      simpa [Hid] using this
    · simpa [Hid] using b3
  rintro W0 ⟨FB, K1, K4, K5, HZ⟩
  generalize hb1 : w.heap.size = b1 at K1 K4 K5 HZ ⊢
  generalize hb4 : b1 + 1 = b4 at K4 K5 ⊢
  generalize hb5 : b4 + 1 = b5 at K5 ⊢
  have HBB : Hid (w.heap.size = b1 ∧ b1 < b4 ∧ b4 < b5) := ⟨hb1, by omega, by omega⟩
  have HZ5 : Hid (b5 + 1 ≤ W0.heap.size) := by have := HZ.out; rw [Hid]; omega
  clear hb1 hb4 hb5 HZ
  have HS0 : Hid (HGr w (b5 + 1) b5 n ((ts.take 0).filter p) W0) := ⟨⟨.slice none 0 0, World.ownsRow_nil _ _ _ _, K5.out⟩, FB.out⟩
  have d1 := K1.out.cell (i := 1) rfl
  go_wp2_with fail
  clear d1
  go_loopg [14] m (fun gk t14 wr => ∃ k : Nat, k + gk = m ∧ t14 = .int .i64 k ∧ Hid (HGr w (b5 + 1) b5 n ((ts.take k).filter p) wr) ∧ Hid (Blk wr b4 [.int .i64 0, .slice none 0 0] 24) ∧ Hid (b5 + 1 ≤ wr.heap.size))
  case atStart => exact ⟨0, by omega, rfl, HS0, K4, HZ5⟩
  case round =>
    obtain ⟨k, hkg, rfl, H, H4, HZ⟩ := hrel
    clear HS0 K1 K4 K5 HZ5 FB
    by_cases hlt : k < m
    · have hkl : k < ts.length := by rw [← HM.out]; exact hlt
      obtain ⟨lb, lo, rfl, hlb, c0, c1, c2, c3, c4⟩ := (HS.out.below H.out.old).at hkl
      obtain ⟨st1, st2⟩ := filt_step (p := p) hkl
      have HC : Hid (∀ W, Below wr.heap.size wr W → Calls Tryz.prog 86 #[.agg #[.int .i64 ts[k].a, .int .i64 ts[k].b, .int .i64 ts[k].kind, .int .i64 ts[k].str, .int .i64 ts[k].src], .pointer (some ⟨bc, 0, none⟩)] W fun e w' => e = .returned (.bool (p ts[k])) ∧ Below W.heap.size W w') := fun W hb => HK.out ts[k] W (List.getElem_mem hkl) (H.out.old.trans (hb.mono H.out.old.size))
      have hlen : ((ts.take k).filter p).length ≤ 1000 := by have h1 := List.length_filter_le p (ts.take k); rw [List.length_take] at h1; omega
      obtain ⟨y, hy⟩ : ∃ y, y = ts[k] := ⟨_, rfl⟩
      rw [← hy] at c0 c1 c2 c3 c4 st1 st2 HC
      obtain ⟨pre, hpre⟩ : ∃ pre, pre = (ts.take k).filter p := ⟨_, rfl⟩
      rw [← hpre] at H st1 st2 hlen
      obtain ⟨v, hv⟩ : ∃ v, v = p y := ⟨_, rfl⟩
      rw [← hv] at st1 st2 HC
      clear hkl hy hpre hv
      obtain ⟨ya, yb, yk, ys, yr⟩ := y
      simp only at c0 c1 c2 c3 c4 HC
      have HB2 : Hid (∀ W, Below (wr.heap.size + 1) (wr.alloc (.cells #[.int .i64 ya, .int .i64 yb, .int .i64 yk, .int .i64 ys, .int .i64 yr] 54)) W → Below wr.heap.size wr W ∧ TieAt W wr.heap.size ⟨ya, yb, yk, ys, yr⟩) := fun W hb => by
        have hb' : Below (wr.alloc (.cells #[.int .i64 ya, .int .i64 yb, .int .i64 yk, .int .i64 ys, .int .i64 yr] 54)).heap.size (wr.alloc (.cells #[.int .i64 ya, .int .i64 yb, .int .i64 yk, .int .i64 ys, .int .i64 yr] 54)) W := by simpa using hb
        exact ⟨((Below.refl _ _).alloc (Nat.le_refl _) _).trans (hb.mono (by omega)), (TieAt.new wr ⟨ya, yb, yk, ys, yr⟩ _).below hb'⟩
      cases v with
      | false =>
        have HST := Lib.hid (st2 rfl)
        clear st1 st2
        go_wp2_with (first | (go_at_call 86; refine (HC.out _ ((Below.refl _ _).alloc (Nat.le_refl _) _)).mono ?_; rintro e w1 ⟨rfl, hb1⟩; have HY := Lib.hid (HB2.out w1 (by simpa using hb1)); clear hb1 HC HB2))
        go_roundg (gk - 1)
        case measure => omega
        case rel => exact ⟨k + 1, by omega, by simp, by rw [HST.out]; exact H.out.below HY.out.1, H4.out.below HY.out.1, Nat.le_trans HZ.out HY.out.1.size⟩
      | true =>
        have HST := Lib.hid (st1 rfl)
        clear st1 st2
        obtain ⟨tv, hown, hblk⟩ := H.out.own
        obtain ⟨fa, fc, rfl, hm0, hfi⟩ := own_ties hown
        obtain ⟨q, hq⟩ : ∃ q, q = pre.length := ⟨_, rfl⟩
        rw [← hq] at hown hblk hlen
        have HO := Lib.hid hown
        have HBK := Lib.hid hblk
        have HQL := Lib.hid hq
        clear hown hblk hm0 hfi hq
        go_wp2_with (first | (go_at_call 86; refine (HC.out _ ((Below.refl _ _).alloc (Nat.le_refl _) _)).mono ?_; rintro e w1 ⟨rfl, hb1⟩; have HY := Lib.hid (HB2.out w1 (by simpa using hb1)); clear hb1 HC HB2; obtain ⟨_, e0, e1, e2, e3, e4⟩ := HY.out.2; simp only at e0 e1 e2 e3 e4; have g1 := (HBK.out.below HY.out.1).cell (i := 1) rfl) | (at_builtin; go_loud (refine wpList_append_own _ rfl _ _ 22 rfl (b5 + 1) 54 i0 (.agg #[.int .i64 0, .int .i64 0, .int .i64 0, .int .i64 0, .int .i64 0]) 5 40 Tryz.underlying22 hi0 hz0 hz1 hz2 rfl (by decide) (.slice fa q fc) q (tvL pre) rfl ((own_below HO.out HY.out.1).alloc _) ⟨w1.heap.size, 0, none⟩ 1 1 (tvC ⟨ya, yb, yk, ys, yr⟩) rfl rfl (tie_cells (TieAt.new w1 ⟨ya, yb, yk, ys, yr⟩ _)) (by simp [tvC, Value.oneCell']) (by simp only [maxLen]; omega) (by omega) (by have h1 := HZ.out; have h2 := HY.out.1.size; simp; omega) ?_; intro v2 w6 hown' hgrow _; obtain ⟨f2, c2', rfl⟩ := own_slice hown'; have K6O := Lib.hid hown'; have K6K : Hid (Blk w6 b5 [.int .i64 n, .slice fa q fc] 24) := ((HBK.out.below HY.out.1).block (Below.heap_alloc _ _ _ (HBK.out.below HY.out.1).lt)).block (hgrow.block _ (by have := (HBK.out.below HY.out.1).lt; simp; omega) (fun e => by have := (World.ownsRow.lt HO.out _ e.symm).1; omega)); have K64 : Hid (Blk w6 b4 [.int .i64 0, .slice none 0 0] 24) := ((H4.out.below HY.out.1).block (Below.heap_alloc _ _ _ (H4.out.below HY.out.1).lt)).block (hgrow.block _ (by have := (H4.out.below HY.out.1).lt; simp; omega) (fun e => by have := (World.ownsRow.lt HO.out _ e.symm).1; have := HBB.out; omega)); have K6W : Hid (Below w.heap.size w w6) := ((H.out.old.trans (HY.out.1.mono H.out.old.size)).alloc (by have := H.out.old.size; have := HY.out.1.size; omega) _).grown hgrow (by have := H.out.old.size; have := HY.out.1.size; simp; omega) (fun q hq => by have := (World.ownsRow.lt HO.out q hq).1; have := HBB.out; omega); have K6S : Hid (b5 + 1 ≤ w6.heap.size) := Nat.le_trans (Nat.le_trans HZ.out (Nat.le_trans HY.out.1.size (by simp))) hgrow.size; clear hown' hgrow; have n1 := K6K.out.cell (i := 1) rfl; have f1 := K6K.out.frozen 1)))
        have H7 : Hid (HGr w (b5 + 1) b5 n ((ts.take (k + 1)).filter p) (w6.setCell ⟨b5, 1, none⟩ (.slice f2 (q + 1) c2'))) := by
          refine ⟨⟨_, ?_, K6K.out.set_ 1 _⟩, K6W.out.setCell (by have := HBB.out; show w.heap.size ≤ b5; omega) _⟩
          rw [HST.out, tvL_snoc, List.length_append, ← HQL.out]
          exact ownsRow_setCell_below K6O.out (Nat.lt_succ_self _) _
        have H74 : Hid (Blk (w6.setCell ⟨b5, 1, none⟩ (.slice f2 (q + 1) c2')) b4 [.int .i64 0, .slice none 0 0] 24) := K64.out.only ((Only.refl b5 w6).set_ 1 _) (by have := HBB.out; omega)
        have H7S : Hid (b5 + 1 ≤ (w6.setCell ⟨b5, 1, none⟩ (.slice f2 (q + 1) c2')).heap.size) := by have := K6S.out; simpa [World.setCell, Hid] using this
        go_roundg (gk - 1)
        case measure => omega
        case rel => exact ⟨k + 1, by omega, by simp, H7, H74, H7S⟩
    · have e : m = k := by omega
      subst e
      have hts : ts.take m = ts := List.take_of_length_le (by rw [← HM.out]; omega)
      rw [hts] at H
      clear hts
      obtain ⟨tv, hown, hblk⟩ := H.out.own
      obtain ⟨fa, fc, rfl, hm0, hfi⟩ := own_ties hown
      have HOW := Lib.hid hown
      generalize hF : ts.filter p = F at *
      have HFF := Lib.hid hF
      have c0 := hblk.cell (i := 0) rfl
      have c1 := hblk.cell (i := 1) rfl
      have d0 := H4.out.cell (i := 0) rfl
      have d1 := H4.out.cell (i := 1) rfl
      have f0 := H4.out.frozen 0
      have f1 := H4.out.frozen 1
      have HOLD := Lib.hid H.out.old
      clear hown hblk hm0 hfi hF H
      go_wp2_with fail
      refine named (fun V => Blk V b4 [.int .i64 n, .slice fa F.length fc] 24 ∧ TiesNew w.heap.size V fa F ∧ Below w.heap.size w V) ?_ ?_
      · have o1 : Only b4 wr ((wr.setCell ⟨b4, 0, none⟩ (.int .i64 n)).setCell ⟨b4, 1, none⟩ (.slice fa F.length fc)) := ((Only.refl b4 wr).set_ 0 _).set_ 1 _
        have hq4 : w.heap.size ≤ b4 := by have := HBB.out; omega
        refine ⟨(H4.out.set_ 0 _).set_ 1 _, ?_, (HOLD.out.setCell hq4 _).setCell hq4 _⟩
        have hb : b4 < b5 + 1 := by have := HBB.out; omega
        obtain ⟨a2, c2', e, _, hT⟩ := own_tiesN (ownsRow_setCell_below (ownsRow_setCell_below HOW.out (a := ⟨b4, 0, none⟩) hb (.int .i64 n)) (a := ⟨b4, 1, none⟩) hb (.slice fa F.length fc))
        injection e with e1 e2 e3
        subst e1
        exact hT.mono (by have := HBB.out; omega)
      rintro V ⟨V1, V2, V3⟩
      have e0 := V1.cell (i := 0) rfl
      have e1 := V1.cell (i := 1) rfl
      refine bodyPost_ret (v := .agg #[.int .i64 n, .slice fa F.length fc]) (by simp [results, Tryz.results51, go_sem, e0, e1]) rfl ?_
      exact ⟨fa, fc, by rw [HFF.out], by rw [HFF.out]; exact V2, V3⟩
set_option maxRecDepth 100000 in
set_option maxHeartbeats 4000000 in
theorem having_without (p : TieD → Bool) (bc : Nat) (n : Int) (a : Option Addr) (cap : Nat) (ts : List TieD) (w : World) (hl : ts.length ≤ 1000) (hs : TiesAt w a ts)
    (hK : ∀ t W, t ∈ ts → Below w.heap.size w W → Calls Tryz.prog 98 #[tieV t, .pointer (some ⟨bc, 0, none⟩)] W fun e w' => e = .returned (.bool (p t)) ∧ Below W.heap.size W w') :
    Calls Tryz.prog 51 #[gV n a ts.length cap, .func (.func 98) #[] #[.pointer (some ⟨bc, 0, none⟩)]] w (GRet n (ts.filter p) w) := by
  have HS := Lib.hid hs
  have HK := Lib.hid hK
  unfold GRet
  obtain ⟨m, hm⟩ : ∃ m, m = ts.length := ⟨_, rfl⟩
  rw [← hm] at hl ⊢
  have HM := Lib.hid hm
  clear hs hm hK
  obtain ⟨i0, hi0, hz0, hz1, hz2⟩ := info_parts infoT
  go_enter Tryz.func51, Tryz.ntmps51
  simp only [gV]
  go_upto_region 2 with (fail)
  refine named (fun V => Hid (Below w.heap.size w V) ∧ Hid (Blk V w.heap.size [.int .i64 n, .slice a m cap] 24) ∧ Hid (Blk V (w.heap.size + 1) [.int .i64 0, .slice none 0 0] 24) ∧ Hid (Blk V (w.heap.size + 1 + 1) [.int .i64 n, .slice none 0 0] 24) ∧ Hid (w.heap.size + 3 ≤ V.heap.size)) ?_ ?_
  · have b1 := Blk.new w [.int .i64 n, .slice a m cap] 24
    have b2 := Blk.new (w.alloc (.cells #[.int .i64 n, .slice a m cap] 24)) [.int .i64 0, .slice none 0 0] 24
    have b3 := Blk.new ((w.alloc (.cells #[.int .i64 n, .slice a m cap] 24)).alloc (.cells #[.int .i64 0, .slice none 0 0] 24)) [.int .i64 n, .slice none 0 0] 24
    refine ⟨(((Below.refl _ _).alloc (Nat.le_refl _) _).alloc (by simp) _).alloc (by simp; omega) _, (b1.block (Below.heap_alloc _ _ _ (by simp))).block (Below.heap_alloc _ _ _ (by simp; omega)), ?_, ?_, by simp [Hid]⟩
    · have := b2.block (Below.heap_alloc _ (.cells #[.int .i64 n, .slice none 0 0] 24) _ b2.lt)
      simpa [Hid] using this
    · simpa [Hid] using b3
  rintro W0 ⟨FB, K1, K4, K5, HZ⟩
  generalize hb1 : w.heap.size = b1 at K1 K4 K5 HZ ⊢
  generalize hb4 : b1 + 1 = b4 at K4 K5 ⊢
  generalize hb5 : b4 + 1 = b5 at K5 ⊢
  have HBB : Hid (w.heap.size = b1 ∧ b1 < b4 ∧ b4 < b5) := ⟨hb1, by omega, by omega⟩
  have HZ5 : Hid (b5 + 1 ≤ W0.heap.size) := by have := HZ.out; rw [Hid]; omega
  clear hb1 hb4 hb5 HZ
  have HS0 : Hid (HGr w (b5 + 1) b5 n ((ts.take 0).filter p) W0) := ⟨⟨.slice none 0 0, World.ownsRow_nil _ _ _ _, K5.out⟩, FB.out⟩
  have d1 := K1.out.cell (i := 1) rfl
  go_wp2_with fail
  clear d1
  go_loopg [14] m (fun gk t14 wr => ∃ k : Nat, k + gk = m ∧ t14 = .int .i64 k ∧ Hid (HGr w (b5 + 1) b5 n ((ts.take k).filter p) wr) ∧ Hid (Blk wr b4 [.int .i64 0, .slice none 0 0] 24) ∧ Hid (b5 + 1 ≤ wr.heap.size))
  case atStart => exact ⟨0, by omega, rfl, HS0, K4, HZ5⟩
  case round =>
    obtain ⟨k, hkg, rfl, H, H4, HZ⟩ := hrel
    clear HS0 K1 K4 K5 HZ5 FB
    by_cases hlt : k < m
    · have hkl : k < ts.length := by rw [← HM.out]; exact hlt
      obtain ⟨lb, lo, rfl, hlb, c0, c1, c2, c3, c4⟩ := (HS.out.below H.out.old).at hkl
      obtain ⟨st1, st2⟩ := filt_step (p := p) hkl
      have HC : Hid (∀ W, Below wr.heap.size wr W → Calls Tryz.prog 98 #[.agg #[.int .i64 ts[k].a, .int .i64 ts[k].b, .int .i64 ts[k].kind, .int .i64 ts[k].str, .int .i64 ts[k].src], .pointer (some ⟨bc, 0, none⟩)] W fun e w' => e = .returned (.bool (p ts[k])) ∧ Below W.heap.size W w') := fun W hb => HK.out ts[k] W (List.getElem_mem hkl) (H.out.old.trans (hb.mono H.out.old.size))
      have hlen : ((ts.take k).filter p).length ≤ 1000 := by have h1 := List.length_filter_le p (ts.take k); rw [List.length_take] at h1; omega
      obtain ⟨y, hy⟩ : ∃ y, y = ts[k] := ⟨_, rfl⟩
      rw [← hy] at c0 c1 c2 c3 c4 st1 st2 HC
      obtain ⟨pre, hpre⟩ : ∃ pre, pre = (ts.take k).filter p := ⟨_, rfl⟩
      rw [← hpre] at H st1 st2 hlen
      obtain ⟨v, hv⟩ : ∃ v, v = p y := ⟨_, rfl⟩
      rw [← hv] at st1 st2 HC
      clear hkl hy hpre hv
      obtain ⟨ya, yb, yk, ys, yr⟩ := y
      simp only at c0 c1 c2 c3 c4 HC
      have HB2 : Hid (∀ W, Below (wr.heap.size + 1) (wr.alloc (.cells #[.int .i64 ya, .int .i64 yb, .int .i64 yk, .int .i64 ys, .int .i64 yr] 54)) W → Below wr.heap.size wr W ∧ TieAt W wr.heap.size ⟨ya, yb, yk, ys, yr⟩) := fun W hb => by
        have hb' : Below (wr.alloc (.cells #[.int .i64 ya, .int .i64 yb, .int .i64 yk, .int .i64 ys, .int .i64 yr] 54)).heap.size (wr.alloc (.cells #[.int .i64 ya, .int .i64 yb, .int .i64 yk, .int .i64 ys, .int .i64 yr] 54)) W := by simpa using hb
        exact ⟨((Below.refl _ _).alloc (Nat.le_refl _) _).trans (hb.mono (by omega)), (TieAt.new wr ⟨ya, yb, yk, ys, yr⟩ _).below hb'⟩
      cases v with
      | false =>
        have HST := Lib.hid (st2 rfl)
        clear st1 st2
        go_wp2_with (first | (go_at_call 98; refine (HC.out _ ((Below.refl _ _).alloc (Nat.le_refl _) _)).mono ?_; rintro e w1 ⟨rfl, hb1⟩; have HY := Lib.hid (HB2.out w1 (by simpa using hb1)); clear hb1 HC HB2))
        go_roundg (gk - 1)
        case measure => omega
        case rel => exact ⟨k + 1, by omega, by simp, by rw [HST.out]; exact H.out.below HY.out.1, H4.out.below HY.out.1, Nat.le_trans HZ.out HY.out.1.size⟩
      | true =>
        have HST := Lib.hid (st1 rfl)
        clear st1 st2
        obtain ⟨tv, hown, hblk⟩ := H.out.own
        obtain ⟨fa, fc, rfl, hm0, hfi⟩ := own_ties hown
        obtain ⟨q, hq⟩ : ∃ q, q = pre.length := ⟨_, rfl⟩
        rw [← hq] at hown hblk hlen
        have HO := Lib.hid hown
        have HBK := Lib.hid hblk
        have HQL := Lib.hid hq
        clear hown hblk hm0 hfi hq
        go_wp2_with (first | (go_at_call 98; refine (HC.out _ ((Below.refl _ _).alloc (Nat.le_refl _) _)).mono ?_; rintro e w1 ⟨rfl, hb1⟩; have HY := Lib.hid (HB2.out w1 (by simpa using hb1)); clear hb1 HC HB2; obtain ⟨_, e0, e1, e2, e3, e4⟩ := HY.out.2; simp only at e0 e1 e2 e3 e4; have g1 := (HBK.out.below HY.out.1).cell (i := 1) rfl) | (at_builtin; go_loud (refine wpList_append_own _ rfl _ _ 22 rfl (b5 + 1) 54 i0 (.agg #[.int .i64 0, .int .i64 0, .int .i64 0, .int .i64 0, .int .i64 0]) 5 40 Tryz.underlying22 hi0 hz0 hz1 hz2 rfl (by decide) (.slice fa q fc) q (tvL pre) rfl ((own_below HO.out HY.out.1).alloc _) ⟨w1.heap.size, 0, none⟩ 1 1 (tvC ⟨ya, yb, yk, ys, yr⟩) rfl rfl (tie_cells (TieAt.new w1 ⟨ya, yb, yk, ys, yr⟩ _)) (by simp [tvC, Value.oneCell']) (by simp only [maxLen]; omega) (by omega) (by have h1 := HZ.out; have h2 := HY.out.1.size; simp; omega) ?_; intro v2 w6 hown' hgrow _; obtain ⟨f2, c2', rfl⟩ := own_slice hown'; have K6O := Lib.hid hown'; have K6K : Hid (Blk w6 b5 [.int .i64 n, .slice fa q fc] 24) := ((HBK.out.below HY.out.1).block (Below.heap_alloc _ _ _ (HBK.out.below HY.out.1).lt)).block (hgrow.block _ (by have := (HBK.out.below HY.out.1).lt; simp; omega) (fun e => by have := (World.ownsRow.lt HO.out _ e.symm).1; omega)); have K64 : Hid (Blk w6 b4 [.int .i64 0, .slice none 0 0] 24) := ((H4.out.below HY.out.1).block (Below.heap_alloc _ _ _ (H4.out.below HY.out.1).lt)).block (hgrow.block _ (by have := (H4.out.below HY.out.1).lt; simp; omega) (fun e => by have := (World.ownsRow.lt HO.out _ e.symm).1; have := HBB.out; omega)); have K6W : Hid (Below w.heap.size w w6) := ((H.out.old.trans (HY.out.1.mono H.out.old.size)).alloc (by have := H.out.old.size; have := HY.out.1.size; omega) _).grown hgrow (by have := H.out.old.size; have := HY.out.1.size; simp; omega) (fun q hq => by have := (World.ownsRow.lt HO.out q hq).1; have := HBB.out; omega); have K6S : Hid (b5 + 1 ≤ w6.heap.size) := Nat.le_trans (Nat.le_trans HZ.out (Nat.le_trans HY.out.1.size (by simp))) hgrow.size; clear hown' hgrow; have n1 := K6K.out.cell (i := 1) rfl; have f1 := K6K.out.frozen 1)))
        have H7 : Hid (HGr w (b5 + 1) b5 n ((ts.take (k + 1)).filter p) (w6.setCell ⟨b5, 1, none⟩ (.slice f2 (q + 1) c2'))) := by
          refine ⟨⟨_, ?_, K6K.out.set_ 1 _⟩, K6W.out.setCell (by have := HBB.out; show w.heap.size ≤ b5; omega) _⟩
          rw [HST.out, tvL_snoc, List.length_append, ← HQL.out]
          exact ownsRow_setCell_below K6O.out (Nat.lt_succ_self _) _
        have H74 : Hid (Blk (w6.setCell ⟨b5, 1, none⟩ (.slice f2 (q + 1) c2')) b4 [.int .i64 0, .slice none 0 0] 24) := K64.out.only ((Only.refl b5 w6).set_ 1 _) (by have := HBB.out; omega)
        have H7S : Hid (b5 + 1 ≤ (w6.setCell ⟨b5, 1, none⟩ (.slice f2 (q + 1) c2')).heap.size) := by have := K6S.out; simpa [World.setCell, Hid] using this
        go_roundg (gk - 1)
        case measure => omega
        case rel => exact ⟨k + 1, by omega, by simp, H7, H74, H7S⟩
    · have e : m = k := by omega
      subst e
      have hts : ts.take m = ts := List.take_of_length_le (by rw [← HM.out]; omega)
      rw [hts] at H
      clear hts
      obtain ⟨tv, hown, hblk⟩ := H.out.own
      obtain ⟨fa, fc, rfl, hm0, hfi⟩ := own_ties hown
      have HOW := Lib.hid hown
      generalize hF : ts.filter p = F at *
      have HFF := Lib.hid hF
      have c0 := hblk.cell (i := 0) rfl
      have c1 := hblk.cell (i := 1) rfl
      have d0 := H4.out.cell (i := 0) rfl
      have d1 := H4.out.cell (i := 1) rfl
      have f0 := H4.out.frozen 0
      have f1 := H4.out.frozen 1
      have HOLD := Lib.hid H.out.old
      clear hown hblk hm0 hfi hF H
      go_wp2_with fail
      refine named (fun V => Blk V b4 [.int .i64 n, .slice fa F.length fc] 24 ∧ TiesNew w.heap.size V fa F ∧ Below w.heap.size w V) ?_ ?_
      · have o1 : Only b4 wr ((wr.setCell ⟨b4, 0, none⟩ (.int .i64 n)).setCell ⟨b4, 1, none⟩ (.slice fa F.length fc)) := ((Only.refl b4 wr).set_ 0 _).set_ 1 _
        have hq4 : w.heap.size ≤ b4 := by have := HBB.out; omega
        refine ⟨(H4.out.set_ 0 _).set_ 1 _, ?_, (HOLD.out.setCell hq4 _).setCell hq4 _⟩
        have hb : b4 < b5 + 1 := by have := HBB.out; omega
        obtain ⟨a2, c2', e, _, hT⟩ := own_tiesN (ownsRow_setCell_below (ownsRow_setCell_below HOW.out (a := ⟨b4, 0, none⟩) hb (.int .i64 n)) (a := ⟨b4, 1, none⟩) hb (.slice fa F.length fc))
        injection e with e1 e2 e3
        subst e1
        exact hT.mono (by have := HBB.out; omega)
      rintro V ⟨V1, V2, V3⟩
      have e0 := V1.cell (i := 0) rfl
      have e1 := V1.cell (i := 1) rfl
      refine bodyPost_ret (v := .agg #[.int .i64 n, .slice fa F.length fc]) (by simp [results, Tryz.results51, go_sem, e0, e1]) rfl ?_
      exact ⟨fa, fc, by rw [HFF.out], by rw [HFF.out]; exact V2, V3⟩
end Go.Proofs.YthjeiaildabadaaGreat
/- Layer 4: Strong and Without of the program. -/
namespace Go.Proofs.YthjeiaildabadaaGreat
set_option linter.unusedSimpArgs false
set_option linter.unusedVariables false
open Go Go.RowKit

set_option maxRecDepth 100000 in
theorem strongFn_any (t : TieD) (bs : Nat) (s : Int) (w : World) (h : Blk w bs [.int .i64 s] 3) :
    Calls Tryz.prog 86 #[tieV t, .pointer (some ⟨bs, 0, none⟩)] w fun e w' => e = .returned (.bool (decide (s ≤ t.str))) ∧ Below w.heap.size w w' := by
  have hb : Blk (w.alloc (.cells #[.int .i64 t.a, .int .i64 t.b, .int .i64 t.kind, .int .i64 t.str, .int .i64 t.src] 54)) bs [.int .i64 s] 3 := h.block (Below.heap_alloc _ _ _ h.lt)
  have c0 := hb.cell (i := 0) rfl
  obtain ⟨v, hv⟩ : ∃ v, v = decide (s ≤ t.str) := ⟨_, rfl⟩
  rw [← hv]
  have HV := Lib.hid hv
  obtain ⟨ya, yb, yk, ys, yr⟩ := t
  simp only at c0 HV
  clear hb h hv
  go_enter Tryz.func86, Tryz.ntmps86
  simp only [tieV]
  go_wp2_with fail
  all_goals (
    go_ret
    exact ⟨by rw [HV.out]; (first | rfl | simp_all), (Below.refl _ _).alloc (Nat.le_refl _) _⟩)
set_option maxRecDepth 100000 in
set_option maxHeartbeats 2000000 in
theorem strong_any (s : Int) (n : Int) (a : Option Addr) (cap : Nat) (ts : List TieD) (w : World) (hl : ts.length ≤ 1000) (hs : TiesAt w a ts) :
    Calls Tryz.prog 60 #[gV n a ts.length cap, .int .i64 s] w (GRet n (ts.filter fun t => decide (s ≤ t.str)) w) := by
  have HH : Hid (∀ W bs, Below w.heap.size w W → Blk W bs [.int .i64 s] 3 → Calls Tryz.prog 51 #[gV n a ts.length cap, .func (.func 86) #[] #[.pointer (some ⟨bs, 0, none⟩)]] W (GRet n (ts.filter fun t => decide (s ≤ t.str)) W)) := fun W bs hb hk =>
    having_strong (fun t => decide (s ≤ t.str)) bs n a cap ts W hl (hs.below hb) fun t W' _ hb' => strongFn_any t bs s W' (hk.below hb')
  generalize (ts.filter fun t => decide (s ≤ t.str)) = F at *
  obtain ⟨m, hm⟩ : ∃ m, m = ts.length := ⟨_, rfl⟩
  rw [← hm] at hl HH ⊢
  clear hm hs
  have hmf : ∀ (fn : Fn) (first cap : Array Value) (w : World), (Instr.makeFunc fn first cap).run Tryz.prog w = .ok (.func fn first cap) w := fun _ _ _ _ => rfl
  unfold GRet at HH ⊢
  go_enter Tryz.func60, Tryz.ntmps60
  simp only [gV] at HH ⊢
  go_upto_region 1 with (fail)
  refine named (fun V => Hid (Below w.heap.size w V) ∧ Hid (Blk V w.heap.size [.int .i64 n, .slice a m cap] 24) ∧ Hid (Blk V (w.heap.size + 1) [.int .i64 s] 3) ∧ Hid (Blk V (w.heap.size + 1 + 1) [.int .i64 0, .slice none 0 0] 24)) ?_ ?_
  · have b1 := Blk.new w [.int .i64 n, .slice a m cap] 24
    have b2 := Blk.new (w.alloc (.cells #[.int .i64 n, .slice a m cap] 24)) [.int .i64 s] 3
    have b3 := Blk.new ((w.alloc (.cells #[.int .i64 n, .slice a m cap] 24)).alloc (.cells #[.int .i64 s] 3)) [.int .i64 0, .slice none 0 0] 24
    refine ⟨(((Below.refl _ _).alloc (Nat.le_refl _) _).alloc (by simp) _).alloc (by simp; omega) _, (b1.block (Below.heap_alloc _ _ _ (by simp))).block (Below.heap_alloc _ _ _ (by simp; omega)), ?_, ?_⟩
    · have := b2.block (Below.heap_alloc _ (.cells #[.int .i64 0, .slice none 0 0] 24) _ b2.lt)
      simpa [Hid] using this
    · simpa [Hid] using b3
  rintro W0 ⟨FB, K1, K3, K4⟩
  generalize hb1 : w.heap.size = b1 at K1 K3 K4 ⊢
  generalize hb3 : b1 + 1 = b3 at K3 K4 ⊢
  generalize hb4 : b3 + 1 = b4 at K4 ⊢
  have HBB : Hid (w.heap.size ≤ b4) := by rw [Hid]; omega
  have c0 := K1.out.cell (i := 0) rfl
  have c1 := K1.out.cell (i := 1) rfl
  clear hb1 hb3 hb4
  go_wp2_with (first | (go_at_call 51; refine (HH.out _ _ FB.out K3.out).mono ?_; rintro e w5 ⟨a9, c9, rfl, hT, hb5⟩; clear HH; have HT := Lib.hid hT; have HB5 := Lib.hid (FB.out.trans (hb5.mono FB.out.size)); have H4 := Lib.hid (K4.out.below hb5); clear hT hb5; have d0 := H4.out.cell (i := 0) rfl; have d1 := H4.out.cell (i := 1) rfl; have f0 := H4.out.frozen 0; have f1 := H4.out.frozen 1))
  refine named (fun V => Blk V b4 [.int .i64 n, .slice a9 F.length c9] 24 ∧ TiesNew w.heap.size V a9 F ∧ Below w.heap.size w V) ?_ ?_
  · have o1 : Only b4 w5 ((w5.setCell ⟨b4, 0, none⟩ (.int .i64 n)).setCell ⟨b4, 1, none⟩ (.slice a9 F.length c9)) := ((Only.refl b4 w5).set_ 0 _).set_ 1 _
    exact ⟨(H4.out.set_ 0 _).set_ 1 _, (HT.out.only o1 K4.out.lt).mono FB.out.size, (HB5.out.setCell HBB.out _).setCell HBB.out _⟩
  rintro V ⟨V1, V2, V3⟩
  have e0 := V1.cell (i := 0) rfl
  have e1 := V1.cell (i := 1) rfl
  refine bodyPost_ret (v := .agg #[.int .i64 n, .slice a9 F.length c9]) (by simp [results, Tryz.results60, go_sem, e0, e1]) rfl ?_
  exact ⟨a9, c9, rfl, V2, V3⟩
set_option maxRecDepth 100000 in
theorem withoutFn_any (t : TieD) (bs : Nat) (s : Int) (w : World) (h : Blk w bs [.int .i64 s] 3) :
    Calls Tryz.prog 98 #[tieV t, .pointer (some ⟨bs, 0, none⟩)] w fun e w' => e = .returned (.bool (!(t.src == s))) ∧ Below w.heap.size w w' := by
  have hb : Blk (w.alloc (.cells #[.int .i64 t.a, .int .i64 t.b, .int .i64 t.kind, .int .i64 t.str, .int .i64 t.src] 54)) bs [.int .i64 s] 3 := h.block (Below.heap_alloc _ _ _ h.lt)
  have c0 := hb.cell (i := 0) rfl
  obtain ⟨v, hv⟩ : ∃ v, v = !(t.src == s) := ⟨_, rfl⟩
  rw [← hv]
  have HV := Lib.hid hv
  obtain ⟨ya, yb, yk, ys, yr⟩ := t
  simp only at c0 HV
  clear hb h hv
  go_enter Tryz.func98, Tryz.ntmps98
  simp only [tieV]
  go_wp2_with fail
  all_goals (
    go_ret
    exact ⟨by rw [HV.out]; (first | rfl | simp_all), (Below.refl _ _).alloc (Nat.le_refl _) _⟩)
set_option maxRecDepth 100000 in
set_option maxHeartbeats 2000000 in
theorem without_any (s : Int) (n : Int) (a : Option Addr) (cap : Nat) (ts : List TieD) (w : World) (hl : ts.length ≤ 1000) (hs : TiesAt w a ts) :
    Calls Tryz.prog 66 #[gV n a ts.length cap, .int .i64 s] w (GRet n (ts.filter fun t => !(t.src == s)) w) := by
  have HH : Hid (∀ W bs, Below w.heap.size w W → Blk W bs [.int .i64 s] 3 → Calls Tryz.prog 51 #[gV n a ts.length cap, .func (.func 98) #[] #[.pointer (some ⟨bs, 0, none⟩)]] W (GRet n (ts.filter fun t => !(t.src == s)) W)) := fun W bs hb hk =>
    having_without (fun t => !(t.src == s)) bs n a cap ts W hl (hs.below hb) fun t W' _ hb' => withoutFn_any t bs s W' (hk.below hb')
  generalize (ts.filter fun t => !(t.src == s)) = F at *
  obtain ⟨m, hm⟩ : ∃ m, m = ts.length := ⟨_, rfl⟩
  rw [← hm] at hl HH ⊢
  clear hm hs
  have hmf : ∀ (fn : Fn) (first cap : Array Value) (w : World), (Instr.makeFunc fn first cap).run Tryz.prog w = .ok (.func fn first cap) w := fun _ _ _ _ => rfl
  unfold GRet at HH ⊢
  go_enter Tryz.func66, Tryz.ntmps66
  simp only [gV] at HH ⊢
  go_upto_region 1 with (fail)
  refine named (fun V => Hid (Below w.heap.size w V) ∧ Hid (Blk V w.heap.size [.int .i64 n, .slice a m cap] 24) ∧ Hid (Blk V (w.heap.size + 1) [.int .i64 s] 3) ∧ Hid (Blk V (w.heap.size + 1 + 1) [.int .i64 0, .slice none 0 0] 24)) ?_ ?_
  · have b1 := Blk.new w [.int .i64 n, .slice a m cap] 24
    have b2 := Blk.new (w.alloc (.cells #[.int .i64 n, .slice a m cap] 24)) [.int .i64 s] 3
    have b3 := Blk.new ((w.alloc (.cells #[.int .i64 n, .slice a m cap] 24)).alloc (.cells #[.int .i64 s] 3)) [.int .i64 0, .slice none 0 0] 24
    refine ⟨(((Below.refl _ _).alloc (Nat.le_refl _) _).alloc (by simp) _).alloc (by simp; omega) _, (b1.block (Below.heap_alloc _ _ _ (by simp))).block (Below.heap_alloc _ _ _ (by simp; omega)), ?_, ?_⟩
    · have := b2.block (Below.heap_alloc _ (.cells #[.int .i64 0, .slice none 0 0] 24) _ b2.lt)
      simpa [Hid] using this
    · simpa [Hid] using b3
  rintro W0 ⟨FB, K1, K3, K4⟩
  generalize hb1 : w.heap.size = b1 at K1 K3 K4 ⊢
  generalize hb3 : b1 + 1 = b3 at K3 K4 ⊢
  generalize hb4 : b3 + 1 = b4 at K4 ⊢
  have HBB : Hid (w.heap.size ≤ b4) := by rw [Hid]; omega
  have c0 := K1.out.cell (i := 0) rfl
  have c1 := K1.out.cell (i := 1) rfl
  clear hb1 hb3 hb4
  go_wp2_with (first | (go_at_call 51; refine (HH.out _ _ FB.out K3.out).mono ?_; rintro e w5 ⟨a9, c9, rfl, hT, hb5⟩; clear HH; have HT := Lib.hid hT; have HB5 := Lib.hid (FB.out.trans (hb5.mono FB.out.size)); have H4 := Lib.hid (K4.out.below hb5); clear hT hb5; have d0 := H4.out.cell (i := 0) rfl; have d1 := H4.out.cell (i := 1) rfl; have f0 := H4.out.frozen 0; have f1 := H4.out.frozen 1))
  refine named (fun V => Blk V b4 [.int .i64 n, .slice a9 F.length c9] 24 ∧ TiesNew w.heap.size V a9 F ∧ Below w.heap.size w V) ?_ ?_
  · have o1 : Only b4 w5 ((w5.setCell ⟨b4, 0, none⟩ (.int .i64 n)).setCell ⟨b4, 1, none⟩ (.slice a9 F.length c9)) := ((Only.refl b4 w5).set_ 0 _).set_ 1 _
    exact ⟨(H4.out.set_ 0 _).set_ 1 _, (HT.out.only o1 K4.out.lt).mono FB.out.size, (HB5.out.setCell HBB.out _).setCell HBB.out _⟩
  rintro V ⟨V1, V2, V3⟩
  have e0 := V1.cell (i := 0) rfl
  have e1 := V1.cell (i := 1) rfl
  refine bodyPost_ret (v := .agg #[.int .i64 n, .slice a9 F.length c9]) (by simp [results, Tryz.results66, go_sem, e0, e1]) rfl ?_
  exact ⟨a9, c9, rfl, V2, V3⟩
end Go.Proofs.YthjeiaildabadaaGreat
/- Layer 4: Strong and Without of the program. -/
namespace Go.Proofs.YthjeiaildabadaaGreat
set_option linter.unusedSimpArgs false
set_option linter.unusedVariables false
open Go Go.RowKit

/-- A graph, or an error. -/
structure GR where
  n : Int
  ts : List TieD
  er : Int
def GRes' (r : GR) (w : World) : Ending → World → Prop := GRes r.n r.ts r.er w
theorem okG_len {n : Int} {ts : List TieD} (h : okG n ts = true) : ts.length ≤ 512 := by
  unfold okG at h
  simp only [Bool.and_eq_true, decide_eq_true_eq] at h
  exact h.1.2
/-- The end of a function that returns a zero graph and an error. -/
theorem gres_zero {w V : World} {b4 : Nat} {er : Int} (h : Blk V b4 [.int .i64 0, .slice none 0 0] 24) (hb : Below w.heap.size w V) : ∃ a c, Ending.returned (.tuple #[.agg #[.int .i64 0, .slice none 0 0], .int .i64 er]) = .returned (.tuple #[gV 0 a ([] : List TieD).length c, .int .i64 er]) ∧ TiesNew w.heap.size V a [] ∧ Below w.heap.size w V :=
  ⟨none, 0, rfl, TiesNew.nil _ _ _, hb⟩
def strR (n : Int) (ts : List TieD) (s : Int) : GR := if okG n ts then (if ftB s 1 101 then ⟨n, ts.filter fun t => decide (s ≤ t.str), 0⟩ else ⟨0, [], 1⟩) else ⟨0, [], 40⟩
set_option maxRecDepth 100000 in
set_option maxHeartbeats 4000000 in
theorem Strong_any (s : Int) (n : Int) (a : Option Addr) (cap : Nat) (ts : List TieD) (w : World) (hl : ts.length ≤ 9223372036854775807) (hs : TiesAt w a ts) :
    Calls Tryz.prog 28 #[gV n a ts.length cap, .int .i64 s] w (GRes' (strR n ts s) w) := by
  have HC : Hid (∀ W, Below w.heap.size w W → Calls Tryz.prog 24 #[gV n a ts.length cap] W fun e w' => e = .returned (.int .i64 (errG n ts)) ∧ Below W.heap.size W w') := fun W hb => tCheck_any n a cap ts W hl (hs.below hb)
  have HSG : Hid (okG n ts = true → ∀ W, Below w.heap.size w W → Calls Tryz.prog 60 #[gV n a ts.length cap, .int .i64 s] W (GRet n (ts.filter fun t => decide (s ≤ t.str)) W)) := fun h W hb => strong_any s n a cap ts W (by have := okG_len h; omega) (hs.below hb)
  unfold errG at HC
  unfold GRes' GRes strR
  generalize (ts.filter fun t => decide (s ≤ t.str)) = F at *
  obtain ⟨m, hm⟩ : ∃ m, m = ts.length := ⟨_, rfl⟩
  rw [← hm] at hl HC HSG ⊢
  clear hm hs
  unfold GRet at HSG
  simp only [gV] at HC HSG ⊢
  have HKC : Hid (∀ W, Below (w.heap.size + 2) ((w.alloc (.cells #[.int .i64 n, .slice a m cap] 24)).alloc (.cells #[.int .i64 0, .slice none 0 0] 24)) W → Blk W w.heap.size [.int .i64 n, .slice a m cap] 24 ∧ Blk W (w.heap.size + 1) [.int .i64 0, .slice none 0 0] 24 ∧ Below w.heap.size w W) := fun W hb => by
    have b1 := Blk.new w [.int .i64 n, .slice a m cap] 24
    have b2 := Blk.new (w.alloc (.cells #[.int .i64 n, .slice a m cap] 24)) [.int .i64 0, .slice none 0 0] 24
    have hb' : Below ((w.alloc (.cells #[.int .i64 n, .slice a m cap] 24)).alloc (.cells #[.int .i64 0, .slice none 0 0] 24)).heap.size ((w.alloc (.cells #[.int .i64 n, .slice a m cap] 24)).alloc (.cells #[.int .i64 0, .slice none 0 0] 24)) W := by simpa using hb
    refine ⟨(b1.block (Below.heap_alloc _ _ _ b1.lt)).below hb', ?_, (((Below.refl _ _).alloc (Nat.le_refl _) _).alloc (by simp) _).trans (hb.mono (by omega))⟩
    have := b2.below hb'
    simpa using this
  cases hok : okG n ts with
  | false =>
    rw [hok] at HC
    clear HSG hok
    simp only [Bool.false_eq_true, if_false] at HC ⊢
    go_enter Tryz.func28, Tryz.ntmps28
    go_wp2_with (first | (go_at_call 24; refine (HC.out _ (HKC.out _ (Below.refl _ _)).2.2).mono ?_; rintro e w1 ⟨rfl, hb⟩; clear HC; have HY := Lib.hid (HKC.out w1 (by simpa using hb)); clear hb; have d0 := HY.out.2.1.cell (i := 0) rfl; have d1 := HY.out.2.1.cell (i := 1) rfl; have f0 := HY.out.2.1.frozen 0; have f1 := HY.out.2.1.frozen 1))
    refine named (fun V => Blk V (w.heap.size + 1) [.int .i64 0, .slice none 0 0] 24 ∧ Below w.heap.size w V) ⟨(HY.out.2.1.set_ 0 _).set_ 1 _, (HY.out.2.2.setCell (Nat.le_succ _) _).setCell (Nat.le_succ _) _⟩ ?_
    rintro V ⟨V1, V3⟩
    have e0 := V1.cell (i := 0) rfl
    have e1 := V1.cell (i := 1) rfl
    refine bodyPost_ret (v := .tuple #[.agg #[.int .i64 0, .slice none 0 0], .int .i64 40]) (by simp [results, Tryz.results28, go_sem, e0, e1]) rfl ?_
    exact gres_zero V1 V3
  | true =>
    rw [hok] at HC
    replace HSG := Lib.hid (HSG.out hok)
    clear hok
    simp only [if_true] at HC ⊢
    cases hf : ftB s 1 101 with
    | false =>
      clear HSG
      simp only [Bool.false_eq_true, if_false]
      go_enter Tryz.func28, Tryz.ntmps28
      go_wp2_with (first | (go_at_call 24; refine (HC.out _ (HKC.out _ (Below.refl _ _)).2.2).mono ?_; rintro e w1 ⟨rfl, hb⟩; clear HC; have HY := Lib.hid (HKC.out w1 (by simpa using hb)); clear hb; have d0 := HY.out.2.1.cell (i := 0) rfl; have d1 := HY.out.2.1.cell (i := 1) rfl; have f0 := HY.out.2.1.frozen 0; have f1 := HY.out.2.1.frozen 1) | (go_at_call 72; refine (tFromTo_any _ _ _ _).mono ?_; rintro e w' ⟨rfl, rfl⟩; simp only [hf]))
      refine named (fun V => Blk V (w.heap.size + 1) [.int .i64 0, .slice none 0 0] 24 ∧ Below w.heap.size w V) ⟨(HY.out.2.1.set_ 0 _).set_ 1 _, (HY.out.2.2.setCell (Nat.le_succ _) _).setCell (Nat.le_succ _) _⟩ ?_
      rintro V ⟨V1, V3⟩
      have e0 := V1.cell (i := 0) rfl
      have e1 := V1.cell (i := 1) rfl
      refine bodyPost_ret (v := .tuple #[.agg #[.int .i64 0, .slice none 0 0], .int .i64 1]) (by simp [results, Tryz.results28, go_sem, e0, e1]) rfl ?_
      exact gres_zero V1 V3
    | true =>
      simp only [if_true]
      go_enter Tryz.func28, Tryz.ntmps28
      go_wp2_with (first | (go_at_call 24; refine (HC.out _ (HKC.out _ (Below.refl _ _)).2.2).mono ?_; rintro e w1 ⟨rfl, hb⟩; clear HC; have HY := Lib.hid (HKC.out w1 (by simpa using hb)); clear hb; have c0 := HY.out.1.cell (i := 0) rfl; have c1 := HY.out.1.cell (i := 1) rfl) | (go_at_call 72; refine (tFromTo_any _ _ _ _).mono ?_; rintro e w' ⟨rfl, rfl⟩; simp only [hf]) | (go_at_call 60; refine (HSG.out _ HY.out.2.2).mono ?_; rintro e w2 ⟨a9, c9, rfl, hT, hb2⟩; clear HSG; have HT := Lib.hid hT; have H4 := Lib.hid (HY.out.2.1.below hb2); have HB2 := Lib.hid (HY.out.2.2.trans (hb2.mono HY.out.2.2.size)); have HLT : Hid (w.heap.size + 1 < w1.heap.size ∧ w.heap.size ≤ w1.heap.size) := ⟨HY.out.2.1.lt, HY.out.2.2.size⟩; clear hT hb2; have d0 := H4.out.cell (i := 0) rfl; have d1 := H4.out.cell (i := 1) rfl; have f0 := H4.out.frozen 0; have f1 := H4.out.frozen 1))
      refine named (fun V => Blk V (w.heap.size + 1) [.int .i64 n, .slice a9 F.length c9] 24 ∧ TiesNew w.heap.size V a9 F ∧ Below w.heap.size w V) ?_ ?_
      · have o1 : Only (w.heap.size + 1) w2 ((w2.setCell ⟨w.heap.size + 1, 0, none⟩ (.int .i64 n)).setCell ⟨w.heap.size + 1, 1, none⟩ (.slice a9 F.length c9)) := ((Only.refl _ w2).set_ 0 _).set_ 1 _
        exact ⟨(H4.out.set_ 0 _).set_ 1 _, (HT.out.only o1 HLT.out.1).mono HLT.out.2, (HB2.out.setCell (Nat.le_succ _) _).setCell (Nat.le_succ _) _⟩
      rintro V ⟨V1, V2, V3⟩
      have e0 := V1.cell (i := 0) rfl
      have e1 := V1.cell (i := 1) rfl
      refine bodyPost_ret (v := .tuple #[.agg #[.int .i64 n, .slice a9 F.length c9], .int .i64 0]) (by simp [results, Tryz.results28, go_sem, e0, e1]) rfl ?_
      exact ⟨a9, c9, rfl, V2, V3⟩
def wioR (n : Int) (ts : List TieD) (s : Int) : GR := if okG n ts then (if ftB s 0 4095 then ⟨n, ts.filter fun t => !(t.src == s), 0⟩ else ⟨0, [], 1⟩) else ⟨0, [], 40⟩
set_option maxRecDepth 100000 in
set_option maxHeartbeats 4000000 in
theorem Without_any (s : Int) (n : Int) (a : Option Addr) (cap : Nat) (ts : List TieD) (w : World) (hl : ts.length ≤ 9223372036854775807) (hs : TiesAt w a ts) :
    Calls Tryz.prog 32 #[gV n a ts.length cap, .int .i64 s] w (GRes' (wioR n ts s) w) := by
  have HC : Hid (∀ W, Below w.heap.size w W → Calls Tryz.prog 24 #[gV n a ts.length cap] W fun e w' => e = .returned (.int .i64 (errG n ts)) ∧ Below W.heap.size W w') := fun W hb => tCheck_any n a cap ts W hl (hs.below hb)
  have HSG : Hid (okG n ts = true → ∀ W, Below w.heap.size w W → Calls Tryz.prog 66 #[gV n a ts.length cap, .int .i64 s] W (GRet n (ts.filter fun t => !(t.src == s)) W)) := fun h W hb => without_any s n a cap ts W (by have := okG_len h; omega) (hs.below hb)
  unfold errG at HC
  unfold GRes' GRes wioR
  generalize (ts.filter fun t => !(t.src == s)) = F at *
  obtain ⟨m, hm⟩ : ∃ m, m = ts.length := ⟨_, rfl⟩
  rw [← hm] at hl HC HSG ⊢
  clear hm hs
  unfold GRet at HSG
  simp only [gV] at HC HSG ⊢
  have HKC : Hid (∀ W, Below (w.heap.size + 2) ((w.alloc (.cells #[.int .i64 n, .slice a m cap] 24)).alloc (.cells #[.int .i64 0, .slice none 0 0] 24)) W → Blk W w.heap.size [.int .i64 n, .slice a m cap] 24 ∧ Blk W (w.heap.size + 1) [.int .i64 0, .slice none 0 0] 24 ∧ Below w.heap.size w W) := fun W hb => by
    have b1 := Blk.new w [.int .i64 n, .slice a m cap] 24
    have b2 := Blk.new (w.alloc (.cells #[.int .i64 n, .slice a m cap] 24)) [.int .i64 0, .slice none 0 0] 24
    have hb' : Below ((w.alloc (.cells #[.int .i64 n, .slice a m cap] 24)).alloc (.cells #[.int .i64 0, .slice none 0 0] 24)).heap.size ((w.alloc (.cells #[.int .i64 n, .slice a m cap] 24)).alloc (.cells #[.int .i64 0, .slice none 0 0] 24)) W := by simpa using hb
    refine ⟨(b1.block (Below.heap_alloc _ _ _ b1.lt)).below hb', ?_, (((Below.refl _ _).alloc (Nat.le_refl _) _).alloc (by simp) _).trans (hb.mono (by omega))⟩
    have := b2.below hb'
    simpa using this
  cases hok : okG n ts with
  | false =>
    rw [hok] at HC
    clear HSG hok
    simp only [Bool.false_eq_true, if_false] at HC ⊢
    go_enter Tryz.func32, Tryz.ntmps32
    go_wp2_with (first | (go_at_call 24; refine (HC.out _ (HKC.out _ (Below.refl _ _)).2.2).mono ?_; rintro e w1 ⟨rfl, hb⟩; clear HC; have HY := Lib.hid (HKC.out w1 (by simpa using hb)); clear hb; have d0 := HY.out.2.1.cell (i := 0) rfl; have d1 := HY.out.2.1.cell (i := 1) rfl; have f0 := HY.out.2.1.frozen 0; have f1 := HY.out.2.1.frozen 1))
    refine named (fun V => Blk V (w.heap.size + 1) [.int .i64 0, .slice none 0 0] 24 ∧ Below w.heap.size w V) ⟨(HY.out.2.1.set_ 0 _).set_ 1 _, (HY.out.2.2.setCell (Nat.le_succ _) _).setCell (Nat.le_succ _) _⟩ ?_
    rintro V ⟨V1, V3⟩
    have e0 := V1.cell (i := 0) rfl
    have e1 := V1.cell (i := 1) rfl
    refine bodyPost_ret (v := .tuple #[.agg #[.int .i64 0, .slice none 0 0], .int .i64 40]) (by simp [results, Tryz.results32, go_sem, e0, e1]) rfl ?_
    exact gres_zero V1 V3
  | true =>
    rw [hok] at HC
    replace HSG := Lib.hid (HSG.out hok)
    clear hok
    simp only [if_true] at HC ⊢
    cases hf : ftB s 0 4095 with
    | false =>
      clear HSG
      simp only [Bool.false_eq_true, if_false]
      go_enter Tryz.func32, Tryz.ntmps32
      go_wp2_with (first | (go_at_call 24; refine (HC.out _ (HKC.out _ (Below.refl _ _)).2.2).mono ?_; rintro e w1 ⟨rfl, hb⟩; clear HC; have HY := Lib.hid (HKC.out w1 (by simpa using hb)); clear hb; have d0 := HY.out.2.1.cell (i := 0) rfl; have d1 := HY.out.2.1.cell (i := 1) rfl; have f0 := HY.out.2.1.frozen 0; have f1 := HY.out.2.1.frozen 1) | (go_at_call 72; refine (tFromTo_any _ _ _ _).mono ?_; rintro e w' ⟨rfl, rfl⟩; simp only [hf]))
      refine named (fun V => Blk V (w.heap.size + 1) [.int .i64 0, .slice none 0 0] 24 ∧ Below w.heap.size w V) ⟨(HY.out.2.1.set_ 0 _).set_ 1 _, (HY.out.2.2.setCell (Nat.le_succ _) _).setCell (Nat.le_succ _) _⟩ ?_
      rintro V ⟨V1, V3⟩
      have e0 := V1.cell (i := 0) rfl
      have e1 := V1.cell (i := 1) rfl
      refine bodyPost_ret (v := .tuple #[.agg #[.int .i64 0, .slice none 0 0], .int .i64 1]) (by simp [results, Tryz.results32, go_sem, e0, e1]) rfl ?_
      exact gres_zero V1 V3
    | true =>
      simp only [if_true]
      go_enter Tryz.func32, Tryz.ntmps32
      go_wp2_with (first | (go_at_call 24; refine (HC.out _ (HKC.out _ (Below.refl _ _)).2.2).mono ?_; rintro e w1 ⟨rfl, hb⟩; clear HC; have HY := Lib.hid (HKC.out w1 (by simpa using hb)); clear hb; have c0 := HY.out.1.cell (i := 0) rfl; have c1 := HY.out.1.cell (i := 1) rfl) | (go_at_call 72; refine (tFromTo_any _ _ _ _).mono ?_; rintro e w' ⟨rfl, rfl⟩; simp only [hf]) | (go_at_call 66; refine (HSG.out _ HY.out.2.2).mono ?_; rintro e w2 ⟨a9, c9, rfl, hT, hb2⟩; clear HSG; have HT := Lib.hid hT; have H4 := Lib.hid (HY.out.2.1.below hb2); have HB2 := Lib.hid (HY.out.2.2.trans (hb2.mono HY.out.2.2.size)); have HLT : Hid (w.heap.size + 1 < w1.heap.size ∧ w.heap.size ≤ w1.heap.size) := ⟨HY.out.2.1.lt, HY.out.2.2.size⟩; clear hT hb2; have d0 := H4.out.cell (i := 0) rfl; have d1 := H4.out.cell (i := 1) rfl; have f0 := H4.out.frozen 0; have f1 := H4.out.frozen 1))
      refine named (fun V => Blk V (w.heap.size + 1) [.int .i64 n, .slice a9 F.length c9] 24 ∧ TiesNew w.heap.size V a9 F ∧ Below w.heap.size w V) ?_ ?_
      · have o1 : Only (w.heap.size + 1) w2 ((w2.setCell ⟨w.heap.size + 1, 0, none⟩ (.int .i64 n)).setCell ⟨w.heap.size + 1, 1, none⟩ (.slice a9 F.length c9)) := ((Only.refl _ w2).set_ 0 _).set_ 1 _
        exact ⟨(H4.out.set_ 0 _).set_ 1 _, (HT.out.only o1 HLT.out.1).mono HLT.out.2, (HB2.out.setCell (Nat.le_succ _) _).setCell (Nat.le_succ _) _⟩
      rintro V ⟨V1, V2, V3⟩
      have e0 := V1.cell (i := 0) rfl
      have e1 := V1.cell (i := 1) rfl
      refine bodyPost_ret (v := .tuple #[.agg #[.int .i64 n, .slice a9 F.length c9], .int .i64 0]) (by simp [results, Tryz.results32, go_sem, e0, e1]) rfl ?_
      exact ⟨a9, c9, rfl, V2, V3⟩
end Go.Proofs.YthjeiaildabadaaGreat
