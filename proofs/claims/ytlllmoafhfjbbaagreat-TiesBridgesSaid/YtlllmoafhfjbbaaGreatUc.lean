/- Layer 4: the groups of a valid graph. -/
import Derived.Test.YtlllmoafhfjbbaaGreatUb
import Derived.Test.YtlllmoafhfjbbaaGreatIw
namespace Go.Proofs.YtlllmoafhfjbbaaGreat
set_option linter.unusedSimpArgs false
set_option linter.unusedVariables false
open Go Go.RowKit

section
variable {P : Program} {ops : Array Oper} {C : Cl} {L : List Value} {K : Env → Prop} {o : Oper} {rest : List Oper} {E : Env} {d : Nat}
/-- An operation on a value known by a word, that yields another one known by a word. -/
theorem chain_use_re (q2 : Word) (hlq : lasts C q2) (k : Nat) (q : Word) (hr : ∀ w, C.C w → C.R w w) (hd : o.dst = some d) (hsel : ∀ cs b, o.op ≠ .select cs b) (hw : wantB ops o E L = true)
    (hq : lk E k = some (.re q)) (hl : (o.looksAt ops).contains k = true) (he : ∀ x, exB ops o ((k, .ex x) :: E) = true) (h : ∀ x w, q x w → ∃ v, (execOp (evE ((k, .ex x) :: E) L) o).run P w = .ok (.value v) w ∧ q2 v w) (hk : chain P ops C L rest ((d, .re q2) :: E) K) : chain P ops C L (o :: rest) E K :=
  ⟨d, .re q2, hd, hlq, obl_re k q hsel hw hq hl he fun x w hC hx => by
    obtain ⟨v, h1, h2⟩ := h x w hx
    rw [h1]; exact ⟨hr w hC, h2⟩, hk⟩
end
theorem lk_nil (d : Nat) : lk [] d = none := rfl
/-- A block of values. -/
def Blk (W : World) (b : Nat) (cs : List Value) (t : TypeId) : Prop := W.heap[b]? = some (.cells cs.toArray t (0, 0))
theorem Blk.lt {W : World} {g : Nat} {xs : List Value} {t : TypeId} (h : Blk W g xs t) : g < W.heap.size := by
  rcases Nat.lt_or_ge g W.heap.size with hlt | hge
  · exact hlt
  · unfold Blk at h; rw [Array.getElem?_eq_none hge] at h; cases h
theorem Blk.cell {W : World} {g : Nat} {xs : List Value} {t : TypeId} (h : Blk W g xs t) {i : Nat} {x : Value} (hx : xs[i]? = some x) : W.cell? ⟨g, i, none⟩ = some x := by
  unfold Blk at h
  simp only [World.cell?, h]
  simp [hx]
theorem Blk.frozen {W : World} {g : Nat} {xs : List Value} {t : TypeId} (h : Blk W g xs t) (i : Nat) : W.frozen? ⟨g, i, none⟩ = false := by
  unfold Blk at h
  simp [World.frozen?, h]
theorem Blk.set_ {W : World} {g : Nat} {xs : List Value} {t : TypeId} (h : Blk W g xs t) (i : Nat) (u : Value) : Blk (W.setCell ⟨g, i, none⟩ u) g (xs.set i u) t := by
  unfold Blk at h ⊢
  simp [World.setCell, Array.getElem?_modify, h]
theorem Blk.new (W : World) (xs : List Value) (t : TypeId) : Blk (W.alloc (.cells xs.toArray t)) W.heap.size xs t := heap_alloc_new W _
theorem Blk.block {W W' : World} {g : Nat} {xs : List Value} {t : TypeId} (h : Blk W g xs t) (e : W'.heap[g]? = W.heap[g]?) : Blk W' g xs t := by unfold Blk at h ⊢; rw [e]; exact h
theorem Blk.below {W W' : World} {g : Nat} {xs : List Value} {t : TypeId} (h : Blk W g xs t) (hb : Below W.heap.size W W') : Blk W' g xs t := h.block (hb.block g h.lt)
theorem Blk.only {W W' : World} {b g : Nat} {xs : List Value} {t : TypeId} (h : Blk W b xs t) (ho : Only g W W') (hne : b ≠ g) : Blk W' b xs t := h.block (ho.1 b h.lt hne)
theorem NB.only {W W' : World} {b g : Nat} {xs : List Int} (h : NB W b xs) (ho : Only g W W') (hne : b ≠ g) : NB W' b xs := h.block (ho.1 b h.lt hne)
theorem Blk.ne {W : World} {g g' : Nat} {xs : List Value} {t : TypeId} {l : List Int} (h : Blk W g xs t) (h' : NB W g' l) (ht : t ≠ 3) : g ≠ g' := by
  rintro rfl
  unfold Blk at h; unfold NB at h'
  rw [h] at h'
  injection h' with h'
  injection h' with _ h2
  exact ht h2
def gV (n : Int) (a : Option Addr) (len cap : Nat) : Value := .agg #[.int .i64 n, .slice a len cap]
def wkV (n : Int) (a : Option Addr) (len cap g m : Nat) : Value := .agg #[.int .i64 n, .slice a len cap, .slice (some ⟨g, 0, none⟩) m m]
def wkC (n : Int) (a : Option Addr) (len cap g m : Nat) : List Value := [.int .i64 n, .slice a len cap, .slice (some ⟨g, 0, none⟩) m m]
theorem load_g {w : World} {b : Nat} {n : Int} {a : Option Addr} {len cap : Nat} (h0 : w.cell? ⟨b, 0, none⟩ = some (.int .i64 n)) (h1 : w.cell? ⟨b, 1, none⟩ = some (.slice a len cap)) : (Instr.loadAt 24 (.pointer (some ⟨b, 0, none⟩))).run Tryz.prog w = .ok (gV n a len cap) w := by
  simp [go_sem, Instr.loadAt, h0, h1, gV]
/-- A new list of groups. -/
def sgW (N n : Nat) : Word := fun v w => ∃ b, N ≤ b ∧ v = .slice (some ⟨b, 0, none⟩) n n ∧ NB w b (intN (List.range n))
theorem sgW_lasts {w0 : World} (N n : Nat) : lasts (clOld w0) (sgW N n) := fun v w w' _ hb ⟨b, h1, h2, h3⟩ => ⟨b, h1, h2, h3.block (Below.block hb b h3.lt)⟩
def wkW (N n : Nat) (a : Option Addr) (len cap : Nat) : Word := fun v w => ∃ b, N ≤ b ∧ v = wkV n a len cap b n ∧ NB w b (intN (List.range n))
theorem wkW_lasts {w0 : World} (N n : Nat) (a : Option Addr) (len cap : Nat) : lasts (clOld w0) (wkW N n a len cap) := fun v w w' _ hb ⟨b, h1, h2, h3⟩ => ⟨b, h1, h2, h3.block (Below.block hb b h3.lt)⟩
def zvWk : Value := .agg #[.int .i64 0, .slice none 0 0, .slice none 0 0]
theorem zero_wk (w : World) : (zeroValue 63).run Tryz.prog w = .ok zvWk w := by simp [go_sem, zvWk]
set_option maxRecDepth 100000 in
set_option maxHeartbeats 2000000 in
theorem begin_any (n : Nat) (a : Option Addr) (cap : Nat) (ts : List TieD) (w : World) (hn : n ≤ 32) (hl : ts.length ≤ 512) (hv : ∀ t ∈ ts, tieB t n = true) (hs : TiesAt w a ts) :
    Calls Tryz.prog 32 #[gV n a ts.length cap] w fun e w' => ∃ g, e = .returned (wkV n a ts.length cap g n) ∧ w.heap.size ≤ g ∧ NB w' g (grpL n ts) ∧ Below w.heap.size w w' := by
  have HS := Lib.hid hs
  have HV := Lib.hid hv
  obtain ⟨m, hm⟩ : ∃ m, m = ts.length := ⟨_, rfl⟩
  rw [← hm] at hl ⊢
  have HM := Lib.hid hm
  clear hs hm hv
  go_enter Tryz.func32, Tryz.ntmps32
  simp only [gV, wkV]
  go_upto_region 1 with (fail)
  refine named (fun V => Below w.heap.size w V ∧ Blk V w.heap.size [.int .i64 n, .slice a m cap] 24 ∧ Blk V (w.heap.size + 1) [.int .i64 0, .slice none 0 0, .slice none 0 0] 63) ⟨((Below.refl _ _).alloc (Nat.le_refl _) _).alloc (by simp) _, (Blk.new w _ _).block (Below.heap_alloc _ _ _ (by simp)), by have := Blk.new (w.alloc (.cells #[.int .i64 n, .slice a m cap] 24)) [.int .i64 0, .slice none 0 0, .slice none 0 0] 63; simpa using this⟩ ?_
  rintro W0 ⟨FB, K1, K2⟩
  replace FB := Lib.hid FB; replace K1 := Lib.hid K1; replace K2 := Lib.hid K2
  generalize hb1 : w.heap.size = b1 at K1 K2 ⊢
  generalize hb2 : b1 + 1 = b2 at K2 ⊢
  have L1 := Lib.hid hb1; have L2 := Lib.hid hb2
  clear hb1 hb2
  have HSI : Hid (∀ w', Calls Tryz.prog 29 #[.int .i64 n] w' fun e w'' => ∃ u, e = .returned u ∧ Below w'.heap.size w' w'' ∧ (w.heap.size + 2 ≤ w'.heap.size → sgW (w.heap.size + 2) n u w'')) := fun w' => (single_any n w' (by omega)).mono fun e w'' ⟨h1, h2, h3, _⟩ => ⟨_, h1, h3, fun hx => ⟨_, hx, rfl, h2⟩⟩
  have HW0 : Hid (w.heap.size + 2 ≤ W0.drew.heap.size) := by have := K2.out.lt; have h2 := L2.out; have h1 := L1.out; show _ ≤ W0.heap.size; omega
  obtain ⟨N, hN⟩ : ∃ N, N = w.heap.size + 2 := ⟨_, rfl⟩
  rw [← hN] at HSI HW0
  have HNN := Lib.hid hN
  clear hN
  refine wp_region_old2 (Z := (fun e => if e = 63 then zvWk else .bool false)) 6 30 [63] (by kernel_rfl) (by kernel_rfl) (by kernel_rfl) (by kernel_rfl) (by intro e he w; simp only [List.mem_cons, List.not_mem_nil, or_false] at he; rcases he with rfl <;> first | exact zero_wk w) (by rfl) ?_
  simp only [List.take_succ_cons, List.take_zero, List.drop_succ_cons, List.drop_zero, List.drop_nil]
  refine chain_load (.agg #[.int .i64 n, .slice a m cap]) _ _ _ (fun _ _ => Below.refl _ _) rfl rfl (by kernel_rfl) (by kernel_rfl) rfl (fun w1 hC => by have k := K1.out.below (show Below W0.heap.size W0 w1 from old_end (Below.refl _ _) hC (Nat.le_refl _)); exact load_g (k.cell rfl) (k.cell rfl)) ?_
  refine chain_val (.pointer (some ⟨b1, 0, none⟩)) (fun _ _ => Below.refl _ _) rfl (by intro cs b h; cases h) (by kernel_rfl) (by kernel_rfl) (fun w1 _ => by simp [execOp, evE, lk_cons, lk_nil, slotL, go_sem]) ?_
  refine chain_load (.int .i64 n) _ _ _ (fun _ _ => Below.refl _ _) rfl rfl (by kernel_rfl) (by kernel_rfl) rfl (fun w1 hC => by have k := K1.out.below (show Below W0.heap.size W0 w1 from old_end (Below.refl _ _) hC (Nat.le_refl _)); exact load_i64 (k.cell rfl)) ?_
  refine chain_call_re (sgW N n) 29 [.int .i64 n] _ _ (sgW_lasts N n) (enters_of Tryz.func29 (by kernel_rfl) rfl) rfl rfl rfl (by kernel_rfl) (by kernel_rfl) rfl rfl (fun w1 hC => (HSI.out w1).mono fun e w'' ⟨u, h1, h2, h3⟩ => ⟨u, h1, h2, h3 (Nat.le_trans HW0.out (Below.size hC))⟩) ?_
  refine chain_use_re (wkW N n a m cap) (wkW_lasts N n a m cap) 9 (sgW N n) (fun _ _ => Below.refl _ _) rfl (by intro cs b h; cases h) (by kernel_rfl) rfl (by kernel_rfl) (fun _ => rfl) (fun x w1 ⟨b, h1, h2, h3⟩ => ⟨wkV n a m cap b n, by subst h2; simp [execOp, evE, lk_cons, lk_nil, slotL, go_sem, wkV, gV], b, h1, rfl, h3⟩) ?_
  refine chain_alloc 63 zvWk rfl rfl (by kernel_rfl) (by kernel_rfl) (fun w => zero_wk w) ?_
  refine chain_end2 (by rfl) ?_
  intro xs w1 hCw1 hrew1 hNw1
  simp only [layE, List.foldr_cons, List.foldr_nil, List.set_cons_succ, List.set_cons_zero] at hNw1 ⊢
  obtain ⟨p5, hb5⟩ := hrew1 3 ptr_w rfl
  simp only [hb5] at hNw1 ⊢
  obtain ⟨bx5, hx5, hB5, hk5⟩ := hNw1.1 5 _ _ 3 (by decide) (by rfl) (by rfl) rfl rfl rfl
  obtain rfl : p5 = bx5 := by simpa using hx5
  clear hx5
  clear hNw1  hb5
  have HO : Hid (Below W0.heap.size W0 w1) := old_end (Below.refl _ _) hCw1 (Nat.le_refl _)
  obtain ⟨g, hg1, hg2, hg3⟩ := hrew1 10 _ rfl
  simp only [hg2]
  clear hrew1 hg2 hCw1
  have hk5' : Blk w1 p5 [.int .i64 0, .slice none 0 0, .slice none 0 0] 63 := hk5
  clear hk5
  have HP := Lib.hid hk5'
  have HNB := Lib.hid hg3
  have HGP : Hid (p5 ≠ g) := HP.out.ne hg3 (by decide)
  clear hg3 hk5'
  have HJ : Hid (∀ (x : TieD) W, Calls Tryz.prog 30 #[.agg #[.int .i64 x.a, .int .i64 x.b, .int .i64 x.kind, .int .i64 x.str, .int .i64 x.src]] W fun e w' => e = .returned (.bool (x.kind == 2)) ∧ Below W.heap.size W w') := fun x W => tJoin_any x W
  have c0 := HP.out.cell (i := 0) rfl
  have c1 := HP.out.cell (i := 1) rfl
  have c2 := HP.out.cell (i := 2) rfl
  have f0 := HP.out.frozen 0
  have f1 := HP.out.frozen 1
  have f2 := HP.out.frozen 2
  simp only [wkV]
  clear HSI
  go_upto_region 2 with (fail)
  refine named (fun V => Hid (Below w.heap.size w V) ∧ Hid (Blk V b2 [.int .i64 0, .slice none 0 0, .slice none 0 0] 63) ∧ Hid (Blk V p5 [.int .i64 n, .slice a m cap, .slice (some ⟨g, 0, none⟩) n n] 63) ∧ Hid (NB V g (intN (List.range n)))) ?_ ?_
  · have o1 : Only p5 w1 (((w1.setCell ⟨p5, 0, none⟩ (.int .i64 n)).setCell ⟨p5, 1, none⟩ (.slice a m cap)).setCell ⟨p5, 2, none⟩ (.slice (some ⟨g, 0, none⟩) n n)) := (((Only.refl p5 w1).set_ 0 _).set_ 1 _).set_ 2 _
    have hs0 := FB.out.size
    have hp := HO.out.size
    have hq : w.heap.size ≤ p5 := by omega
    refine ⟨(((FB.out.trans (HO.out.mono hs0)).setCell hq _).setCell hq _).setCell hq _, (K2.out.below HO.out).only o1 (by have := K2.out.lt; omega), ?_, HNB.out.only o1 (Ne.symm HGP.out)⟩
    exact ((HP.out.set_ 0 _).set_ 1 _).set_ 2 _
  clear c0 c1 c2 f0 f1 f2 HP HNB HO
  rintro W1 ⟨FB1, K21, HP1, HNB1⟩
  have HP0 : Hid (w.heap.size ≤ p5 ∧ w.heap.size ≤ g ∧ b2 ≠ p5 ∧ b2 ≠ g ∧ w.heap.size ≤ b2) := by
    have := FB.out.size; have := K2.out.lt; have := HNN.out; have h1 := L1.out; have h2 := L2.out
    exact ⟨by omega, by omega, by omega, by omega, by omega⟩
  have c0 := HP1.out.cell (i := 0) rfl
  have c1 := HP1.out.cell (i := 1) rfl
  have c2 := HP1.out.cell (i := 2) rfl
  clear FB K1 K2 L1 L2 hB5 hg1 HW0 HNN
  generalize xs 9 = x9
  go_wp2_with fail
  clear c0 c1 c2
  go_loopg [5, 15] m (fun gk t5 t15 wr => ∃ k : Nat, k + gk = m ∧ t15 = .int .i64 k ∧ Hid (NB wr g (grpL n (ts.take k))) ∧ Hid (Blk wr p5 [.int .i64 n, .slice a m cap, .slice (some ⟨g, 0, none⟩) n n] 63) ∧ Hid (Blk wr b2 [.int .i64 0, .slice none 0 0, .slice none 0 0] 63) ∧ Hid (Below w.heap.size w wr))
  case atStart => exact ⟨0, by omega, rfl, HNB1, HP1, K21, FB1⟩
  case round =>
    obtain ⟨k, hkg, rfl, HG, HP, HK, HB⟩ := hrel
    clear HNB1 HP1 K21 FB1
    by_cases hlt : k < m
    · have hkl : k < ts.length := by rw [← HM.out]; exact hlt
      obtain ⟨lb, lo, rfl, hlb, c0, c1, c2, c3, c4⟩ := (HS.out.below HB.out).at hkl
      have HST := Lib.hid (grpL_step n ts k hkl)
      have hvk := HV.out ts[k] (List.getElem_mem hkl)
      obtain ⟨y, hy⟩ : ∃ y, y = ts[k] := ⟨_, rfl⟩
      rw [← hy] at hvk HST c0 c1 c2 c3 c4
      obtain ⟨ha0, ha1, hb0, hb1, ha2, hb2⟩ := tieB_in hvk
      have HJ2 := Lib.hid fun W => HJ.out y W
      obtain ⟨l, hl0⟩ : ∃ l, l = grpL n (ts.take k) := ⟨_, rfl⟩
      have hll : l.length = n := by rw [hl0]; exact grpL_len n _
      rw [← hl0] at HST HG
      clear hy hkl hl0 HV HJ hvk
      obtain ⟨ya, yb, yk, ys, yr⟩ := y
      simp only at c0 c1 c2 c3 c4 ha0 ha1 hb0 hb1 ha2 hb2 HJ2
      obtain ⟨xa, rfl⟩ := Int.eq_ofNat_of_zero_le ha0
      obtain ⟨xb, rfl⟩ := Int.eq_ofNat_of_zero_le hb0
      have hsz := HB.out.size
      cases hyk : (yk == 2) with
      | false =>
        have HST2 : Hid (grpL n (ts.take (k + 1)) = l) := by rw [Hid, HST.out, grpS]; simp [hyk]
        rw [hyk] at HJ2
        clear hyk HST
        go_wp2_with (first | (go_at_call 30; refine (HJ2.out _).mono ?_; rintro e w5 ⟨rfl, hb5⟩; clear HJ2; have HB5 := Lib.hid hb5; clear hb5))
        go_roundg (gk - 1)
        case measure => omega
        case rel =>
          have hx : Below wr.heap.size wr w5 := ((Below.refl _ _).alloc (Nat.le_refl _) _).trans (HB5.out.mono (by simp))
          exact ⟨k + 1, by omega, by simp, by rw [HST2.out]; exact HG.out.block (hx.block _ HG.out.lt), HP.out.below hx, HK.out.below hx, HB.out.trans (hx.mono hsz)⟩
      | true =>
        have hpx := atI_some (l := l) (i := xa) (by rw [hll]; exact ha2)
        have hpy := atI_some (l := l) (i := xb) (by rw [hll]; exact hb2)
        have HST2 : Hid (grpL n (ts.take (k + 1)) = uniL l (min (atI l xa) (atI l xb)) (max (atI l xa) (atI l xb))) := by rw [Hid, HST.out, grpS]; simp [hyk]
        have HU : Hid (∀ W, NB W g l → Calls Tryz.prog 31 #[.slice (some ⟨g, 0, none⟩) n n, .int .i64 xa, .int .i64 xb] W fun e w' => (∃ r, e = .returned (.bool r)) ∧ NB w' g (grpL n (ts.take (k + 1))) ∧ Only g W w' ∧ (∀ B, B ≤ g → Below B W w')) := fun W hW => by
          have := unite_any g l xa xb _ _ W (by omega) hW hpx hpy
          rw [hll] at this
          rw [HST2.out]
          exact this
        rw [hyk] at HJ2
        clear hyk HST hpx hpy HST2 hll
        go_wp2_with (first | (go_at_call 30; refine (HJ2.out _).mono ?_; rintro e w5 ⟨rfl, hb5⟩; clear HJ2; have HB5 := Lib.hid hb5; obtain ⟨_, d0, d1, d2, d3, d4⟩ := (TieAt.new wr ⟨xa, xb, yk, ys, yr⟩ 33).below hb5; simp only at d0 d1 d2 d3 d4; have HX : Hid (Below wr.heap.size wr w5) := ((Below.refl _ _).alloc (Nat.le_refl _) _).trans (hb5.mono (by simp)); have e2 := (HP.out.below HX.out).cell (i := 2) rfl; clear hb5) | (go_at_call 31; refine (HU.out _ (HG.out.block (HX.out.block _ HG.out.lt))).mono ?_; rintro e w6 ⟨⟨r, rfl⟩, hu1, hu2, hu3⟩; clear HU; have HU1 := Lib.hid hu1; have HU2 := Lib.hid hu2; have HU3 := Lib.hid hu3; clear hu1 hu2 hu3))
        go_roundg (gk - 1)
        case measure => omega
        case rel =>
          exact ⟨k + 1, by omega, by simp, HU1.out, (HP.out.below HX.out).only HU2.out HGP.out, (HK.out.below HX.out).only HU2.out HP0.out.2.2.2.1, (HB.out.trans (HX.out.mono hsz)).trans (HU3.out _ HP0.out.2.1)⟩
    · have e : k = m := by omega
      subst e
      have HR : Hid (NB wr g (grpL n ts)) := by
        have := HG.out
        rwa [List.take_of_length_le (by rw [← HM.out]; omega)] at this
      have c0 := HP.out.cell (i := 0) rfl
      have c1 := HP.out.cell (i := 1) rfl
      have c2 := HP.out.cell (i := 2) rfl
      have d0 := HK.out.cell (i := 0) rfl
      have d1 := HK.out.cell (i := 1) rfl
      have d2 := HK.out.cell (i := 2) rfl
      have f0 := HK.out.frozen 0
      have f1 := HK.out.frozen 1
      have f2 := HK.out.frozen 2
      go_wp2_with fail
      refine named (fun V => Blk V b2 [.int .i64 n, .slice a k cap, .slice (some ⟨g, 0, none⟩) n n] 63 ∧ NB V g (grpL n ts) ∧ Below w.heap.size w V) ?_ ?_
      · have o1 : Only b2 wr (((wr.setCell ⟨b2, 0, none⟩ (.int .i64 n)).setCell ⟨b2, 1, none⟩ (.slice a k cap)).setCell ⟨b2, 2, none⟩ (.slice (some ⟨g, 0, none⟩) n n)) := (((Only.refl b2 wr).set_ 0 _).set_ 1 _).set_ 2 _
        have hq := HP0.out.2.2.2.2
        exact ⟨((HK.out.set_ 0 _).set_ 1 _).set_ 2 _, HR.out.only o1 (Ne.symm HP0.out.2.2.2.1), ((HB.out.setCell hq _).setCell hq _).setCell hq _⟩
      rintro V ⟨V1, V2, V3⟩
      have e0 := V1.cell (i := 0) rfl
      have e1 := V1.cell (i := 1) rfl
      have e2 := V1.cell (i := 2) rfl
      refine bodyPost_ret (v := .agg #[.int .i64 n, .slice a k cap, .slice (some ⟨g, 0, none⟩) n n]) (by simp [results, Tryz.results32, go_sem, e0, e1, e2]) rfl ?_
      exact ⟨g, rfl, HP0.out.2.1, V2, V3⟩
theorem field_wk (n : Int) (a : Option Addr) (len cap : Nat) (v : Value) (w : World) : (Instr.field 63 (.agg #[.int .i64 n, .slice a len cap, v]) 1).run Tryz.prog w = .ok v w := by
  cases v <;> kernel_rfl
attribute [local go_sem] field_wk
set_option maxRecDepth 100000 in
set_option maxHeartbeats 2000000 in
theorem tGroups_any (n : Int) (a : Option Addr) (cap : Nat) (ts : List TieD) (w : World) (hl : ts.length ≤ 9223372036854775807) (hs : TiesAt w a ts) :
    Calls Tryz.prog 13 #[gV n a ts.length cap] w fun e w' => ∃ r c, e = .returned (.tuple #[.slice r (if okG n ts then grpL n.toNat ts else []).length c, .int .i64 (errG n ts)]) ∧ IntsAt w' r (if okG n ts then grpL n.toNat ts else []) ∧ Below w.heap.size w w' := by
  have HC : Hid (∀ W, Below w.heap.size w W → Calls Tryz.prog 6 #[gV n a ts.length cap] W fun e w' => e = .returned (.int .i64 (errG n ts)) ∧ Below W.heap.size W w') := fun W hb => tCheck_any n a cap ts W hl (hs.below hb)
  have HBE : Hid (okG n ts = true → ∃ x : Nat, n = x ∧ x ≤ 32 ∧ ∀ W, Below w.heap.size w W → Calls Tryz.prog 32 #[gV x a ts.length cap] W fun e w' => ∃ g, e = .returned (wkV x a ts.length cap g x) ∧ W.heap.size ≤ g ∧ NB w' g (grpL x ts) ∧ Below W.heap.size W w') := fun h => by
    unfold okG ftB at h
    simp only [Bool.and_eq_true, decide_eq_true_eq] at h
    obtain ⟨x, rfl⟩ := Int.eq_ofNat_of_zero_le (by omega : 0 ≤ n)
    exact ⟨x, rfl, by omega, fun W hb => begin_any x a cap ts W (by omega) h.1.2 (fun t ht => List.all_eq_true.1 h.2 t ht) (hs.below hb)⟩
  obtain ⟨m, hm⟩ : ∃ m, m = ts.length := ⟨_, rfl⟩
  unfold errG at HC ⊢
  rw [← hm] at hl HC HBE ⊢
  clear hm hs
  cases hok : okG n ts with
  | false =>
    rw [hok] at HC
    clear HBE hok
    go_enter Tryz.func13, Tryz.ntmps13
    simp only [gV] at HC ⊢
    go_wp2_with (first | (go_at_call 6; refine (HC.out _ ((Below.refl _ _).alloc (Nat.le_refl _) _)).mono ?_; rintro e w1 ⟨rfl, hb⟩; clear HC; have HB1 := Lib.hid hb; clear hb; simp only [Bool.false_eq_true, if_false]))
    go_ret2
    exact ⟨none, ⟨0, rfl⟩, .inl rfl, ((Below.refl _ _).alloc (Nat.le_refl _) _).trans (HB1.out.mono (by simp))⟩
  | true =>
    obtain ⟨x, rfl, hx, hbe⟩ := HBE.out hok
    rw [hok] at HC
    have HL : Hid ((grpL x ts).length = x) := grpL_len x ts
    have HB := Lib.hid hbe
    clear HBE hbe hok
    simp only [Int.toNat_natCast, if_true, HL.out]
    go_enter Tryz.func13, Tryz.ntmps13
    simp only [gV, wkV] at HC HB ⊢
    go_wp2_with (first | (go_at_call 6; refine (HC.out _ ((Below.refl _ _).alloc (Nat.le_refl _) _)).mono ?_; rintro e w1 ⟨rfl, hb⟩; clear HC; have c0 := ((Blk.new w [.int .i64 x, .slice a m cap] 24).below hb).cell (i := 0) rfl; have c1 := ((Blk.new w [.int .i64 x, .slice a m cap] 24).below hb).cell (i := 1) rfl; have HB1 : Hid (Below w.heap.size w w1) := ((Below.refl _ _).alloc (Nat.le_refl _) _).trans (hb.mono (by simp)); clear hb; simp only [if_true]) | (go_at_call 32; refine (HB.out _ HB1.out).mono ?_; rintro e w2 ⟨g, rfl, hg1, hg2, hb⟩; clear HB; have HG2 := Lib.hid hg2; have HB2 := Lib.hid (HB1.out.trans (hb.mono HB1.out.size)); clear hb hg1 hg2))
    go_ret2
    first | exact ⟨_, ⟨_, rfl⟩, HG2.out.ints, HB2.out⟩ | exact ⟨_, _, rfl, HG2.out.ints, HB2.out⟩
end Go.Proofs.YtlllmoafhfjbbaaGreat
