/- Layer 4: the specification's Length. -/
import Derived.Test.YtjcafjffmiknmaaGreatF3
import Derived.Deep.DeepCutAuto
namespace Go.Proofs.YtjcafjffmiknmaaGreat
set_option linter.unusedSimpArgs false
set_option linter.unusedVariables false
open Go Go.RowKit

def natI (D : List Nat) : List Value := D.map fun (x : Nat) => .int .i64 (x : Int)
theorem natI_set (D : List Nat) (i x : Nat) : (natI D).set i (.int .i64 (x : Int)) = natI (D.set i x) := by unfold natI; rw [List.map_set]
theorem natI_at {D : List Nat} {i : Nat} (h : i < D.length) : (natI D)[i]? = some (.int .i64 (dat D i : Nat)) := by unfold natI; rw [List.getElem?_map, dat_some h]; rfl
theorem info2 : (Tryz.prog.info? 63).map (fun i => (i.zero, i.size, i.bytes)) = some (some (.agg #[.int .i64 0, .int .i64 0]), 2, 16) := by kernel_rfl
theorem made_2 (n : Nat) : madeCells #[Value.int .i64 0, .int .i64 0] (n * 2) = (natI (List.replicate (2 * n) 0)).toArray := by
  apply Array.ext_getElem?
  intro i
  by_cases hi : i < n * 2
  · have h2 : i < 2 * n := by omega
    have e : (natI (List.replicate (2 * n) 0)).toArray[i]? = some (.int .i64 0) := by
      unfold natI
      simp [h2]
    rw [e]
    have hm : i % 2 = 0 ∨ i % 2 = 1 := by omega
    rcases hm with h | h <;> simp [madeCells, hi, h]
  · rw [Array.getElem?_eq_none (by simp [madeCells]; omega), Array.getElem?_eq_none (by simp [natI]; omega)]
theorem make_2 (n : Nat) (hn : n ≤ 100000) (w : World) : (Instr.makeSlice 62 (.int .i64 (n : Int)) (.int .i64 (n : Int))).run Tryz.prog w = .ok (.slice (some ⟨w.heap.size, 0, none⟩) n n) (w.alloc (.cells (natI (List.replicate (2 * n) 0)).toArray 63)) := by
  obtain ⟨i0, hi0, hz0, hz1, hz2⟩ := info_parts info2
  have hr := run_make (P := Tryz.prog) w 62 63 i0 (.agg #[.int .i64 0, .int .i64 0]) Tryz.underlying62 hi0 hz0 .i64 .i64 n n (by omega) (Int.le_refl _) (by rw [hz2]; omega) (by omega)
  simp only [Int.toNat_natCast, hz1, Value.cells] at hr
  rw [← made_2]
  exact hr
theorem idx_t2 (b n cap k : Nat) (h : k < n) (w : World) : (Instr.indexAt 62 (.slice (some ⟨b, 0, none⟩) n cap) (.int .i64 k)).run Tryz.prog w = .ok (.pointer (some ⟨b, k * 2, none⟩)) w := by
  simp [go_sem, Instr.indexAt, h]
theorem idx_a2 (b o v : Nat) (h : v < 2) (w : World) : (Instr.indexAt 63 (.pointer (some ⟨b, o, none⟩)) (.int .i64 v)).run Tryz.prog w = .ok (.pointer (some ⟨b, o + v, none⟩)) w := by
  simp [go_sem, Instr.indexAt, h]
theorem add_1n (t : TypeId) (x y : Operand) (i : Nat) (h : i ≤ 100000) (w : World) : (do eqGuard .add t x y (.int .i64 (i : Int)) (.int .i64 1); binOp .add t (.int .i64 (i : Int)) (.int .i64 1) : Sem Value).run Tryz.prog w = .ok (.int .i64 ((i + 1 : Nat) : Int)) w := by
  have hw : IntKind.i64.wrap ((i : Int) + 1) = (i : Int) + 1 := by simp [IntKind.wrap, IntKind.bits, IntKind.signed]; omega
  simp [go_sem, hw]
theorem lss_n (t : TypeId) (x y : Operand) (i j : Nat) (p : Bool) (hp : p = decide (i < j)) (w : World) : (do eqGuard .lss t x y (.int .i64 (i : Int)) (.int .i64 (j : Int)); binOp .lss t (.int .i64 (i : Int)) (.int .i64 (j : Int)) : Sem Value).run Tryz.prog w = .ok (.bool p) w := by
  subst hp
  simp [go_sem]
def fillT (k j : Nat) : List Nat := List.replicate (2 * j) 5120 ++ List.replicate (2 * (k - j)) 0
theorem fillT_len {k j : Nat} (h : j ≤ k) : (fillT k j).length = 2 * k := by unfold fillT; simp; omega
theorem fillT_next {k j : Nat} (h : j < k) : ((fillT k j).set (j * 2) 5120).set (j * 2 + 1) 5120 = fillT k (j + 1) := by
  apply List.ext_getElem?
  intro i
  unfold fillT
  simp only [List.getElem?_set, List.getElem?_append, List.getElem?_replicate, List.length_set, List.length_append, List.length_replicate]
  repeat' split
  all_goals first | rfl | omega | (simp only [Option.some.injEq]; omega)
theorem fillT_end (k : Nat) : fillT k k = tab0 k := by unfold fillT tab0; simp
/-- What there is: the graph and the table. -/
def LT (w W : World) (gc : List Value) (g : Nat) (D : List Nat) : Prop := FA w W gc ∧ Blk W g (natI D) 63
theorem LT.below {w W W' : World} {gc : List Value} {g : Nat} {D : List Nat} (h : LT w W gc g D) (hb : Below W.heap.size W W') : LT w W' gc g D := ⟨h.1.below hb, h.2.below hb⟩
theorem LT.set_ {w W : World} {gc : List Value} {g : Nat} {D : List Nat} (h : LT w W gc g D) (hg : w.heap.size < g) (i x : Nat) : LT w (W.setCell ⟨g, i, none⟩ (.int .i64 (x : Int))) gc g (D.set i x) := ⟨h.1.set_ hg _ _, by have := h.2.set_ i (.int .i64 (x : Int)); rw [natI_set] at this; exact this⟩
theorem LT.at_ {w W : World} {gc : List Value} {g : Nat} {D : List Nat} (h : LT w W gc g D) {i : Nat} (hi : i < D.length) : W.cell? ⟨g, i, none⟩ = some (.int .i64 (dat D i : Nat)) := h.2.cell (natI_at hi)
def Rnd (ts : List TieD) (m : Nat) (ag : Bool) (gk : Nat) (D : List Nat) : Prop := (ag = true ∧ gk = D.sum + 1) ∨ (ag = false ∧ gk = 0 ∧ okAll ts D (4 * m))
set_option maxRecDepth 100000 in
set_option maxHeartbeats 8000000 in
theorem rLength_any (k x y cuts : Nat) (a : Option Addr) (cap : Nat) (ts : List TieD) (w : World) (hk : k ≤ 32) (hx : x < k) (hy : y < k) (hc : cuts < 2) (hl : ts.length ≤ 512) (hv : ∀ t ∈ ts, tieB t k = true) (hs : TiesAt w a ts) :
    Calls Tryz.prog 16 #[gV k a ts.length cap, .int .i64 x, .int .i64 y, .int .i64 cuts] w fun e w' => (∃ r, e = .returned (.int .i64 r) ∧ LenR ts x y cuts r) ∧ Below w.heap.size w w' := by
  have HS := Lib.hid hs
  have HV := Lib.hid hv
  obtain ⟨m, hm⟩ : ∃ m, m = ts.length := ⟨_, rfl⟩
  have HM := Lib.hid hm
  rw [← hm] at hl ⊢
  have HKK : Hid (k ≤ 32 ∧ x < k ∧ y < k ∧ cuts < 2) := ⟨hk, hx, hy, hc⟩
  have HMK : Hid (∀ W, (Instr.makeSlice 62 (.int .i64 (k : Int)) (.int .i64 (k : Int))).run Tryz.prog W = .ok (.slice (some ⟨W.heap.size, 0, none⟩) k k) (W.alloc (.cells (natI (List.replicate (2 * k) 0)).toArray 63))) := fun W => make_2 k (by omega) W
  have FB := Lib.hid (FA.new w [.int .i64 k, .slice a m cap])
  have hmk := HMK.out
  have c0 := FB.out.1.cell (i := 0) rfl
  clear hs hv hm
  simp only [gV]
  go_enter Tryz.func16, Tryz.ntmps16
  go_upto_region 3 with (fail)
  clear hmk HMK c0
  refine named (fun V => Hid (LT w V [.int .i64 k, .slice a m cap] (w.heap.size + 1) (fillT k 0))) ?_ ?_
  · refine ⟨FB.out.below ((Below.refl _ _).alloc (Nat.le_refl _) _), ?_⟩
    have h := Blk.new (w.alloc (.cells #[.int .i64 k, .slice a m cap] 24)) (natI (List.replicate (2 * k) 0)) 63
    have e : fillT k 0 = List.replicate (2 * k) 0 := by unfold fillT; simp
    rw [e]; simpa using h
  rintro V HT
  have HGB : Hid (w.heap.size < w.heap.size + 1) := Nat.lt_succ_self _
  generalize hg : w.heap.size + 1 = g at HT HGB ⊢
  clear FB hg
  go_wp2_with fail
  go_loopg [11] k (fun gk t11 wr => ∃ j : Nat, j + gk = k ∧ t11 = .int .i64 j ∧ Hid (LT w wr [.int .i64 k, .slice a m cap] g (fillT k j)))
  case atStart => exact ⟨0, by omega, rfl, HT⟩
  case round =>
    clear HT
    obtain ⟨j, hjg, rfl, HT⟩ := hrel
    have c0 := HT.out.1.1.cell (i := 0) rfl
    by_cases hlt : j < k
    · have d0 := HT.out.at_ (i := j * 2) (by rw [fillT_len (by omega)]; omega)
      have d1 := HT.out.at_ (i := j * 2 + 1) (by rw [fillT_len (by omega)]; omega)
      have f0 := HT.out.2.frozen (j * 2)
      have f1 := HT.out.2.frozen (j * 2 + 1)
      go_wp2_with fail
      go_roundg (gk - 1)
      case measure => omega
      case rel => exact ⟨j + 1, by omega, by simp, by rw [← fillT_next hlt]; exact (HT.out.set_ HGB.out (j * 2) 5120).set_ HGB.out (j * 2 + 1) 5120⟩
    · have e : k = j := by omega
      subst e
      rw [fillT_end] at HT
      have HTA0 := Lib.hid (Snd.start (ts := ts) HKK.out.2.1)
      have htl : (tab0 k).length = 2 * k := by unfold tab0; simp
      have d0 := HT.out.at_ (i := x * 2) (by rw [htl]; have := HKK.out; omega)
      have f0 := HT.out.2.frozen (x * 2)
      have hxk : x < k := HKK.out.2.1
      go_upto_region 8 with (fail)
      refine named (fun V => Hid (LT w V [.int .i64 k, .slice a m cap] g ((tab0 k).set (x * 2) 0))) (HT.out.set_ HGB.out (x * 2) 0) ?_
      clear HT d0 f0 htl hxk c0
      rintro V HT
      rw [Nat.mul_comm x 2] at HT
      obtain ⟨DD, hDD⟩ : ∃ DD, DD = (tab0 k).set (2 * x) 0 := ⟨_, rfl⟩
      rw [← hDD] at HT HTA0
      clear hDD
      go_wp2_with fail
      have HAG0 : Hid (Rnd ts m true (DD.sum + 1) DD) := .inl ⟨rfl, rfl⟩
      go_loopg [12, 13, 14, 15, 16, 17, 18, 19] (DD.sum + 1) (fun gk t12 t13 t14 t15 t16 t17 t18 t19 wr => ∃ (D : List Nat) (ag : Bool), t12 = .bool ag ∧ Hid (Rnd ts m ag gk D) ∧ Hid (Snd ts k x D) ∧ Hid (LT w wr [.int .i64 k, .slice a m cap] g D))
      case atStart => exact ⟨DD, true, rfl, HAG0, HTA0, HT⟩
      case round =>
        clear HAG0 HTA0 HT
        obtain ⟨D, ag, rfl, HAG, HSN, HT⟩ := hrel
        cases ag
        · -- the end
          have hok : okAll ts D (4 * ts.length) := by
            rcases HAG.out with ⟨h, _⟩ | ⟨_, _, h⟩
            · cases h
            · rw [← HM.out]; exact h
          obtain ⟨A1, A2⟩ := HSN.out.answer HV.out HKK.out.2.2.1 HKK.out.2.2.2 hok
          have d0 := HT.out.at_ (i := y * 2 + cuts) (by rw [HSN.out.len]; have := HKK.out; omega)
          rw [Nat.mul_comm y 2] at d0
          obtain ⟨e, he⟩ : ∃ e, e = dat D (2 * y + cuts) := ⟨_, rfl⟩
          rw [← he] at d0 A1 A2
          rw [Nat.mul_comm 2 y] at d0
          have HA1 := Lib.hid A1
          have HA2 := Lib.hid A2
          have hyk : y < k := HKK.out.2.2.1
          have hc2 : cuts < 2 := HKK.out.2.2.2
          clear he A1 A2 hok HAG
          by_cases hf : 5120 ≤ e
          · have HR := Lib.hid (HA1.out hf)
            have t1 : decide ((5120 : Int) ≤ (e : Int)) = true := decide_eq_true (by omega)
            have t2 : decide (5120 ≤ e) = true := decide_eq_true hf
            clear HA1 HA2 hf
            go_wp2_with fail
            go_ret
            exact ⟨⟨_, rfl, HR.out⟩, HT.out.1.2⟩
          · have HR := Lib.hid (HA2.out hf)
            have t1 : decide ((5120 : Int) ≤ (e : Int)) = false := decide_eq_false (by omega)
            have t2 : decide (5120 ≤ e) = false := decide_eq_false hf
            clear HA1 HA2 hf
            go_wp2_with fail
            go_ret
            exact ⟨⟨_, rfl, HR.out⟩, HT.out.1.2⟩
        · -- a pass
          have hgk : gk = D.sum + 1 := by
            rcases HAG.out with ⟨_, h⟩ | ⟨h, _⟩
            · exact h
            · cases h
          have HGK := Lib.hid hgk
          have HP0 := Lib.hid (Pas.start ts D)
          clear HAG hgk
          go_wp2_with fail
          go_loopg [12, 13, 14, 15, 16, 17, 18, 19] m (fun gk t12 t13 t14 t15 t16 t17 t18 t19 wr => ∃ (i : Nat) (D' : List Nat) (ag : Bool), i + gk = m ∧ t13 = .int .i64 i ∧ t12 = .bool ag ∧ Hid (Pas ts D (4 * i) D' ag) ∧ Hid (Snd ts k x D') ∧ Hid (LT w wr [.int .i64 k, .slice a m cap] g D'))
          case atStart => exact ⟨0, D, false, by omega, rfl, rfl, HP0, HSN, HT⟩
          case round =>
            clear HP0 HSN HT
            obtain ⟨i, D', ag, hig, rfl, rfl, HP, HSN, HT⟩ := hrel
            have c1 := HT.out.1.1.cell (i := 1) rfl
            by_cases hlt : i < m
            · have hil : i < ts.length := by rw [← HM.out]; exact hlt
              obtain ⟨t, ht⟩ : ∃ t, t = ts[i] := ⟨_, rfl⟩
              have HTI : Hid (ts[i]? = some t) := by rw [Hid, ht]; exact List.getElem?_eq_getElem hil
              have htm : t ∈ ts := List.mem_of_getElem? HTI.out
              obtain ⟨lb, lo, rfl, hlb, y0, y1, y2, y3, y4⟩ := (HS.out.below HT.out.1.2).at hil
              rw [← ht] at y0 y1 y2 y3 y4
              obtain ⟨ga, gan, gb, gbn, _, _⟩ := tieB_in (HV.out t htm)
              have HKD := Lib.hid (tie_kind (HV.out t htm))
              clear hil ht htm
              obtain ⟨za, zb, zk, zs, zr⟩ := t
              simp only at y0 y1 y2 y3 y4 ga gan gb gbn
              obtain ⟨xa, rfl⟩ := Int.eq_ofNat_of_zero_le ga
              obtain ⟨xb, rfl⟩ := Int.eq_ofNat_of_zero_le gb
              have HAB : Hid (xa < k ∧ xb < k) := ⟨by omega, by omega⟩
              clear ga gan gb gbn
              go_upto_region 15 with (fail)
              refine named (fun V => Hid (Blk V wr.heap.size [.int .i64 xa, .int .i64 xb, .int .i64 zk, .int .i64 zs, .int .i64 zr] 43) ∧ Hid (LT w V [.int .i64 k, .slice (some ⟨lb, lo, none⟩) m cap] g D')) ⟨Blk.new wr [.int .i64 xa, .int .i64 xb, .int .i64 zk, .int .i64 zs, .int .i64 zr] 43, HT.out.below ((Below.refl _ _).alloc (Nat.le_refl _) _)⟩ ?_
              have HG6 : Hid (g < wr.heap.size) := HT.out.2.lt
              generalize hb6 : wr.heap.size = b6 at HG6 ⊢
              clear HT c1 y0 y1 y2 y3 y4 hb6 hlb
              rintro V ⟨HT6, HT⟩
              have HPX : Hid (Pas ts D (4 * i + 2 * 0) D' ag) := HP.out
              go_wp2_with fail
              go_loopg [12, 15, 16, 17, 18, 19] 2 (fun gk t12 t15 t16 t17 t18 t19 wr => ∃ (u : Nat) (D' : List Nat) (ag : Bool), u + gk = 2 ∧ t15 = .int .i64 u ∧ t12 = .bool ag ∧ Hid (Pas ts D (4 * i + 2 * u) D' ag) ∧ Hid (Snd ts k x D') ∧ Hid (LT w wr [.int .i64 k, .slice (some ⟨lb, lo, none⟩) m cap] g D') ∧ Hid (Blk wr b6 [.int .i64 xa, .int .i64 xb, .int .i64 zk, .int .i64 zs, .int .i64 zr] 43))
              case atStart => exact ⟨0, D', ag, by omega, rfl, rfl, HPX, HSN, HT, HT6⟩
              case round =>
                clear HPX HP HSN HT HT6
                obtain ⟨u, D', ag, hug, rfl, rfl, HP, HSN, HT, HT6⟩ := hrel
                have hu : u = 0 ∨ u = 1 ∨ u = 2 := by omega
                have hku : Hid (u < 2 → 2 - (u + 1) < gk) := fun h => by omega
                rcases hu with rfl | rfl | rfl
                · -- from a xb b
                  have HF : Hid (fromN ⟨xa, xb, zk, zs, zr⟩ 0 = xa ∧ toN ⟨xa, xb, zk, zs, zr⟩ 0 = xb) := ⟨by simp [fromN], by simp [toN]⟩
                  have HFT : Hid (fromN ⟨xa, xb, zk, zs, zr⟩ 0 = xa ∧ toN ⟨xa, xb, zk, zs, zr⟩ 0 = xb ∧ xa < k ∧ xb < k) := ⟨HF.out.1, HF.out.2, HAB.out.1, HAB.out.2⟩
                  go_upto_region 18 with (fail)
                  have HOWD : Hid (∀ w1, (clOld wr.drew).C w1 → Below wr.heap.size wr w1) := fun w1 hC => old_end (Below.refl _ _) hC (Nat.le_refl _)
                  refine wp_region_old 6 120 (by kernel_rfl) (by kernel_rfl) (by rfl) ?_
                  simp only [List.take_succ_cons, List.take_zero, List.drop_succ_cons, List.drop_zero, List.drop_nil]
                  refine chain_val (.pointer (some ⟨b6, 0, none⟩)) (fun _ _ => Below.refl _ _) rfl (by intro cs b h; cases h) (by kernel_rfl) (by kernel_rfl) (fun w1 _ => by simp [execOp, evE, lk_cons, lk_nil, slotL, go_sem]) ?_
                  refine chain_load (.int .i64 xa) _ _ _ (fun _ _ => Below.refl _ _) rfl rfl (by kernel_rfl) (by kernel_rfl) rfl (fun w1 hC => load_i64 ((HT6.out.below (HOWD.out w1 hC)).cell rfl)) ?_
                  refine chain_val (.pointer (some ⟨b6, 1, none⟩)) (fun _ _ => Below.refl _ _) rfl (by intro cs b h; cases h) (by kernel_rfl) (by kernel_rfl) (fun w1 _ => by simp [execOp, evE, lk_cons, lk_nil, slotL, go_sem]) ?_
                  refine chain_load (.int .i64 xb) _ _ _ (fun _ _ => Below.refl _ _) rfl rfl (by kernel_rfl) (by kernel_rfl) rfl (fun w1 hC => load_i64 ((HT6.out.below (HOWD.out w1 hC)).cell rfl)) ?_
                  refine chain_assign (.int .i64 xa) _ (fun _ _ => Below.refl _ _) rfl rfl (by kernel_rfl) (by kernel_rfl) rfl ?_
                  refine chain_assign (.int .i64 xb) _ (fun _ _ => Below.refl _ _) rfl rfl (by kernel_rfl) (by kernel_rfl) rfl ?_
                  refine chain_end (by rfl) ?_
                  intro xs w5 hCw5 hrew5
                  simp only [layE, List.foldr_cons, List.foldr_nil, List.set_cons_succ, List.set_cons_zero]
                  have HY := Lib.hid (HOWD.out w5 hCw5)
                  clear hCw5 hrew5 HOWD
                  replace HT := Lib.hid (HT.out.below HY.out)
                  replace HT6 := Lib.hid (HT6.out.below HY.out)
                  clear HY HF
                  go_wp2_with fail
                  have HPX : Hid (Pas ts D (4 * i + 2 * 0 + 0) D' ag) := HP.out
                  go_loopg [12, 18, 19] 2 (fun gk t12 t18 t19 wr => ∃ (c : Nat) (D' : List Nat) (ag : Bool), c + gk = 2 ∧ t18 = .int .i64 c ∧ t12 = .bool ag ∧ Hid (Pas ts D (4 * i + 2 * 0 + c) D' ag) ∧ Hid (Snd ts k x D') ∧ Hid (LT w wr [.int .i64 k, .slice (some ⟨lb, lo, none⟩) m cap] g D') ∧ Hid (Blk wr b6 [.int .i64 xa, .int .i64 xb, .int .i64 zk, .int .i64 zs, .int .i64 zr] 43))
                  case atStart => exact ⟨0, D', ag, by omega, rfl, rfl, HPX, HSN, HT, HT6⟩
                  case round =>
                    clear HPX HP HSN HT HT6
                    obtain ⟨c, D', ag, hcg, rfl, rfl, HP, HSN, HT, HT6⟩ := hrel
                    by_cases hc2 : c < 2
                    · have HC2 := Lib.hid hc2
                      have z2 := HT6.out.cell (i := 2) rfl
                      have HE5 : Hid (dat D' (2 * xa + c) ≤ 100000) := by have := HSN.out.far (2 * xa + c); rw [Hid]; omega
                      obtain ⟨d, hd⟩ : ∃ d, d = c + cutN ⟨xa, xb, zk, zs, zr⟩ := ⟨_, rfl⟩
                      have HE1 : Hid (∀ W, Below wr.heap.size wr W → W.cell? ⟨g, xa * 2 + c, none⟩ = some (.int .i64 (dat D' (2 * xa + c) : Nat))) := fun W hb => by have := (HT.out.below hb).at_ (i := xa * 2 + c) (by rw [HSN.out.len]; have := HFT.out; omega); rw [this, Nat.mul_comm xa 2]
                      have HE2 : Hid (d < 2 → ∀ W, Below wr.heap.size wr W → W.cell? ⟨g, xb * 2 + d, none⟩ = some (.int .i64 (dat D' (2 * xb + d) : Nat))) := fun h W hb => by have := (HT.out.below hb).at_ (i := xb * 2 + d) (by rw [HSN.out.len]; have := HFT.out; omega); rw [this, Nat.mul_comm xb 2]
                      have HNO : Hid (¬ (d < 2 ∧ dat D' (2 * xa + c) + 1 < dat D' (2 * xb + d)) → Pas ts D (4 * i + 2 * 0 + (c + 1)) D' ag) := fun h => HP.out.keep HTI.out (by omega) HC2.out (fun h2 => by rw [HFT.out.1, HFT.out.2.1]; rw [← hd] at h2 ⊢; omega)
                      have HYE : Hid (d < 2 → dat D' (2 * xa + c) + 1 < dat D' (2 * xb + d) → Pas ts D (4 * i + 2 * 0 + (c + 1)) (D'.set (xb * 2 + d) (dat D' (2 * xa + c) + 1)) true ∧ Snd ts k x (D'.set (xb * 2 + d) (dat D' (2 * xa + c) + 1))) := fun h2 h3 => by
                        rw [Nat.mul_comm xb 2]
                        refine ⟨HP.out.less (by rw [HSN.out.len]; have := HFT.out; omega) h3, ?_⟩
                        have h4 := HSN.out.relax HV.out (u := 0) (c := c) HTI.out (by rw [← hd]; exact h2) (by rw [← hd, HFT.out.1, HFT.out.2.1]; exact h3)
                        rw [← hd, HFT.out.1, HFT.out.2.1] at h4; exact h4
                      obtain ⟨e1, he1⟩ : ∃ e1, e1 = dat D' (2 * xa + c) := ⟨_, rfl⟩
                      obtain ⟨e2, he2⟩ : ∃ e2, e2 = dat D' (2 * xb + d) := ⟨_, rfl⟩
                      rw [← he1] at HE1 HE5 HNO HYE
                      rw [← he2] at HE2 HNO HYE
                      clear he1 he2 HP
                      have hzk : (zk = 2 ∧ d = c) ∨ (zk = 1 ∧ d = c + 1) := by
                        rcases HKD.out with h | h
                        · exact .inl ⟨h, by rw [hd]; unfold cutN; simp only at h ⊢; rw [h]; rfl⟩
                        · exact .inr ⟨h, by rw [hd]; unfold cutN; simp only at h ⊢; rw [h]; rfl⟩
                      clear hd
                      rcases hzk with ⟨hz, hdc⟩ | ⟨hz, hdc⟩
                      · have v1 : (zk == 1) = false := by rw [hz]; rfl
                        have HDC := Lib.hid hdc
                        clear hz hdc
                        go_upto_region 27 with (fail)
                        clear z2 v1
                        have hdi : (c : Int) = (d : Int) := by have := HDC.out; omega
                        have HOWD : Hid (∀ w1, (clOld wr.drew).C w1 → Below wr.heap.size wr w1) := fun w1 hC => old_end (Below.refl _ _) hC (Nat.le_refl _)
                        clear hdi
                        have h : c = d := HDC.out.symm
                        subst h
                        by_cases hd2 : c < 2
                        · have HD2 : Hid (true = decide (c < 2)) := by simp [Hid, hd2]
                          have HDD := Lib.hid hd2
                          replace HE2 := Lib.hid (HE2.out hd2)
                          by_cases hle : e1 + 1 < e2
                          · have HLE : Hid (true = decide (e1 + 1 < e2)) := by simp [Hid, hle]
                            obtain ⟨hp9, hs9⟩ := HYE.out hd2 hle
                            have HPN := Lib.hid hp9
                            have HSN2 := Lib.hid hs9
                            clear hp9 hs9 HYE HNO hle hd2 hku
                            refine wp_region_old 18 120 (by kernel_rfl) (by kernel_rfl) (by rfl) ?_
                            simp only [List.take_succ_cons, List.take_zero, List.drop_succ_cons, List.drop_zero, List.drop_nil]
                            refine chain_move (.int .i64 c) _ (fun _ _ => Below.refl _ _) rfl rfl (by kernel_rfl) (by kernel_rfl) rfl ?_
                            refine chain_bin (.bool true) _ _ _ _ _ (.int .i64 c) (.int .i64 2) (fun _ _ => Below.refl _ _) rfl rfl (by kernel_rfl) (by kernel_rfl) rfl rfl (fun w1 => lss_n _ _ _ _ 2 _ HD2.out w1) ?_
                            refine chain_move (.bool true) _ (fun _ _ => Below.refl _ _) rfl rfl (by kernel_rfl) (by kernel_rfl) rfl ?_
                            refine chain_move (.slice (some ⟨g, 0, none⟩) k k) _ (fun _ _ => Below.refl _ _) rfl rfl (by kernel_rfl) (by kernel_rfl) rfl ?_
                            refine chain_move (.int .i64 xa) _ (fun _ _ => Below.refl _ _) rfl rfl (by kernel_rfl) (by kernel_rfl) rfl ?_
                            refine chain_move (.int .i64 c) _ (fun _ _ => Below.refl _ _) rfl rfl (by kernel_rfl) (by kernel_rfl) rfl ?_
                            refine chain_idx (.pointer (some ⟨g, xa * 2, none⟩)) _ _ _ (.slice (some ⟨g, 0, none⟩) k k) (.int .i64 xa) (fun _ _ => Below.refl _ _) rfl rfl (by kernel_rfl) (by kernel_rfl) rfl rfl (fun w1 => idx_t2 _ _ _ _ HFT.out.2.2.1 w1) ?_
                            refine chain_idx (.pointer (some ⟨g, xa * 2 + c, none⟩)) _ _ _ (.pointer (some ⟨g, xa * 2, none⟩)) (.int .i64 c) (fun _ _ => Below.refl _ _) rfl rfl (by kernel_rfl) (by kernel_rfl) rfl rfl (fun w1 => idx_a2 _ _ _ HC2.out w1) ?_
                            refine chain_load (.int .i64 e1) _ _ _ (fun _ _ => Below.refl _ _) rfl rfl (by kernel_rfl) (by kernel_rfl) rfl (fun w1 hC => load_i64 (HE1.out w1 (HOWD.out w1 hC))) ?_
                            refine chain_bin (.int .i64 ((e1 + 1 : Nat) : Int)) _ _ _ _ _ (.int .i64 e1) (.int .i64 1) (fun _ _ => Below.refl _ _) rfl rfl (by kernel_rfl) (by kernel_rfl) rfl rfl (fun w1 => add_1n _ _ _ _ HE5.out w1) ?_
                            refine chain_move (.slice (some ⟨g, 0, none⟩) k k) _ (fun _ _ => Below.refl _ _) rfl rfl (by kernel_rfl) (by kernel_rfl) rfl ?_
                            refine chain_move (.int .i64 xb) _ (fun _ _ => Below.refl _ _) rfl rfl (by kernel_rfl) (by kernel_rfl) rfl ?_
                            refine chain_move (.int .i64 c) _ (fun _ _ => Below.refl _ _) rfl rfl (by kernel_rfl) (by kernel_rfl) rfl ?_
                            refine chain_idx (.pointer (some ⟨g, xb * 2, none⟩)) _ _ _ (.slice (some ⟨g, 0, none⟩) k k) (.int .i64 xb) (fun _ _ => Below.refl _ _) rfl rfl (by kernel_rfl) (by kernel_rfl) rfl rfl (fun w1 => idx_t2 _ _ _ _ HFT.out.2.2.2 w1) ?_
                            refine chain_idx (.pointer (some ⟨g, xb * 2 + c, none⟩)) _ _ _ (.pointer (some ⟨g, xb * 2, none⟩)) (.int .i64 c) (fun _ _ => Below.refl _ _) rfl rfl (by kernel_rfl) (by kernel_rfl) rfl rfl (fun w1 => idx_a2 _ _ _ HDD.out w1) ?_
                            refine chain_load (.int .i64 e2) _ _ _ (fun _ _ => Below.refl _ _) rfl rfl (by kernel_rfl) (by kernel_rfl) rfl (fun w1 hC => load_i64 (HE2.out w1 (HOWD.out w1 hC))) ?_
                            refine chain_bin (.bool true) _ _ _ _ _ (.int .i64 ((e1 + 1 : Nat) : Int)) (.int .i64 e2) (fun _ _ => Below.refl _ _) rfl rfl (by kernel_rfl) (by kernel_rfl) rfl rfl (fun w1 => lss_n _ _ _ _ _ _ HLE.out w1) ?_
                            refine chain_pick (.bool true) _ _ _ true (fun _ _ => Below.refl _ _) rfl rfl (by kernel_rfl) (by kernel_rfl) rfl rfl ?_
                            refine chain_end (by rfl) ?_
                            intro xs w6 hCw6 hrew6
                            simp only [layE, List.foldr_cons, List.foldr_nil, List.set_cons_succ, List.set_cons_zero]
                            have HY := Lib.hid (HOWD.out w6 hCw6)
                            clear hCw6 hrew6 HOWD
                            have HT := Lib.hid (HT.out.below HY.out)
                            have HT6 := Lib.hid (HT6.out.below HY.out)
                            go_upto_region 28 with (fail)
                            have HOWD : Hid (∀ w1, (clOld w6.drew).C w1 → Below w6.heap.size w6 w1) := fun w1 hC => old_end (Below.refl _ _) hC (Nat.le_refl _)
                            refine wp_region_old 12 120 (by kernel_rfl) (by kernel_rfl) (by rfl) ?_
                            simp only [List.take_succ_cons, List.take_zero, List.drop_succ_cons, List.drop_zero, List.drop_nil]
                            refine chain_move (.slice (some ⟨g, 0, none⟩) k k) _ (fun _ _ => Below.refl _ _) rfl rfl (by kernel_rfl) (by kernel_rfl) rfl ?_
                            refine chain_move (.int .i64 xb) _ (fun _ _ => Below.refl _ _) rfl rfl (by kernel_rfl) (by kernel_rfl) rfl ?_
                            refine chain_move (.int .i64 c) _ (fun _ _ => Below.refl _ _) rfl rfl (by kernel_rfl) (by kernel_rfl) rfl ?_
                            refine chain_move (.slice (some ⟨g, 0, none⟩) k k) _ (fun _ _ => Below.refl _ _) rfl rfl (by kernel_rfl) (by kernel_rfl) rfl ?_
                            refine chain_move (.int .i64 xa) _ (fun _ _ => Below.refl _ _) rfl rfl (by kernel_rfl) (by kernel_rfl) rfl ?_
                            refine chain_move (.int .i64 c) _ (fun _ _ => Below.refl _ _) rfl rfl (by kernel_rfl) (by kernel_rfl) rfl ?_
                            refine chain_idx (.pointer (some ⟨g, xa * 2, none⟩)) _ _ _ (.slice (some ⟨g, 0, none⟩) k k) (.int .i64 xa) (fun _ _ => Below.refl _ _) rfl rfl (by kernel_rfl) (by kernel_rfl) rfl rfl (fun w1 => idx_t2 _ _ _ _ HFT.out.2.2.1 w1) ?_
                            refine chain_idx (.pointer (some ⟨g, xa * 2 + c, none⟩)) _ _ _ (.pointer (some ⟨g, xa * 2, none⟩)) (.int .i64 c) (fun _ _ => Below.refl _ _) rfl rfl (by kernel_rfl) (by kernel_rfl) rfl rfl (fun w1 => idx_a2 _ _ _ HC2.out w1) ?_
                            refine chain_load (.int .i64 e1) _ _ _ (fun _ _ => Below.refl _ _) rfl rfl (by kernel_rfl) (by kernel_rfl) rfl (fun w1 hC => load_i64 (HE1.out w1 (HY.out.trans ((HOWD.out w1 hC).mono HY.out.size)))) ?_
                            refine chain_bin (.int .i64 ((e1 + 1 : Nat) : Int)) _ _ _ _ _ (.int .i64 e1) (.int .i64 1) (fun _ _ => Below.refl _ _) rfl rfl (by kernel_rfl) (by kernel_rfl) rfl rfl (fun w1 => add_1n _ _ _ _ HE5.out w1) ?_
                            refine chain_idx (.pointer (some ⟨g, xb * 2, none⟩)) _ _ _ (.slice (some ⟨g, 0, none⟩) k k) (.int .i64 xb) (fun _ _ => Below.refl _ _) rfl rfl (by kernel_rfl) (by kernel_rfl) rfl rfl (fun w1 => idx_t2 _ _ _ _ HFT.out.2.2.2 w1) ?_
                            refine chain_idx (.pointer (some ⟨g, xb * 2 + c, none⟩)) _ _ _ (.pointer (some ⟨g, xb * 2, none⟩)) (.int .i64 c) (fun _ _ => Below.refl _ _) rfl rfl (by kernel_rfl) (by kernel_rfl) rfl rfl (fun w1 => idx_a2 _ _ _ HDD.out w1) ?_
                            refine chain_end (by rfl) ?_
                            intro xs w7 hCw7 hrew7
                            simp only [layE, List.foldr_cons, List.foldr_nil, List.set_cons_succ, List.set_cons_zero]
                            have HY2 := Lib.hid (HOWD.out w7 hCw7)
                            clear hCw7 hrew7 HOWD
                            have HT := Lib.hid (HT.out.below HY2.out)
                            have HT6 := Lib.hid (HT6.out.below HY2.out)
                            have d0 := HE2.out w7 (HY.out.trans (HY2.out.mono HY.out.size))
                            have f0 := HT.out.2.frozen (xb * 2 + c)
                            clear HY HY2 HE1 HE2
                            go_wp2_with fail
                            go_roundg (2 - (c + 1))
                            case measure => omega
                            case rel => exact ⟨c + 1, D'.set (xb * 2 + c) (e1 + 1), true, by omega, by simp, rfl, HPN, HSN2, HT.out.set_ HGB.out _ _, HT6.out.only ((Only.refl g _).set_ _ _) (by have := HG6.out; omega)⟩
                          · have HLE : Hid (false = decide (e1 + 1 < e2)) := by simp [Hid, hle]
                            have HPN := Lib.hid (HNO.out (fun h => hle h.2))
                            clear HYE HNO hle hd2 hku
                            refine wp_region_old 18 120 (by kernel_rfl) (by kernel_rfl) (by rfl) ?_
                            simp only [List.take_succ_cons, List.take_zero, List.drop_succ_cons, List.drop_zero, List.drop_nil]
                            refine chain_move (.int .i64 c) _ (fun _ _ => Below.refl _ _) rfl rfl (by kernel_rfl) (by kernel_rfl) rfl ?_
                            refine chain_bin (.bool true) _ _ _ _ _ (.int .i64 c) (.int .i64 2) (fun _ _ => Below.refl _ _) rfl rfl (by kernel_rfl) (by kernel_rfl) rfl rfl (fun w1 => lss_n _ _ _ _ 2 _ HD2.out w1) ?_
                            refine chain_move (.bool true) _ (fun _ _ => Below.refl _ _) rfl rfl (by kernel_rfl) (by kernel_rfl) rfl ?_
                            refine chain_move (.slice (some ⟨g, 0, none⟩) k k) _ (fun _ _ => Below.refl _ _) rfl rfl (by kernel_rfl) (by kernel_rfl) rfl ?_
                            refine chain_move (.int .i64 xa) _ (fun _ _ => Below.refl _ _) rfl rfl (by kernel_rfl) (by kernel_rfl) rfl ?_
                            refine chain_move (.int .i64 c) _ (fun _ _ => Below.refl _ _) rfl rfl (by kernel_rfl) (by kernel_rfl) rfl ?_
                            refine chain_idx (.pointer (some ⟨g, xa * 2, none⟩)) _ _ _ (.slice (some ⟨g, 0, none⟩) k k) (.int .i64 xa) (fun _ _ => Below.refl _ _) rfl rfl (by kernel_rfl) (by kernel_rfl) rfl rfl (fun w1 => idx_t2 _ _ _ _ HFT.out.2.2.1 w1) ?_
                            refine chain_idx (.pointer (some ⟨g, xa * 2 + c, none⟩)) _ _ _ (.pointer (some ⟨g, xa * 2, none⟩)) (.int .i64 c) (fun _ _ => Below.refl _ _) rfl rfl (by kernel_rfl) (by kernel_rfl) rfl rfl (fun w1 => idx_a2 _ _ _ HC2.out w1) ?_
                            refine chain_load (.int .i64 e1) _ _ _ (fun _ _ => Below.refl _ _) rfl rfl (by kernel_rfl) (by kernel_rfl) rfl (fun w1 hC => load_i64 (HE1.out w1 (HOWD.out w1 hC))) ?_
                            refine chain_bin (.int .i64 ((e1 + 1 : Nat) : Int)) _ _ _ _ _ (.int .i64 e1) (.int .i64 1) (fun _ _ => Below.refl _ _) rfl rfl (by kernel_rfl) (by kernel_rfl) rfl rfl (fun w1 => add_1n _ _ _ _ HE5.out w1) ?_
                            refine chain_move (.slice (some ⟨g, 0, none⟩) k k) _ (fun _ _ => Below.refl _ _) rfl rfl (by kernel_rfl) (by kernel_rfl) rfl ?_
                            refine chain_move (.int .i64 xb) _ (fun _ _ => Below.refl _ _) rfl rfl (by kernel_rfl) (by kernel_rfl) rfl ?_
                            refine chain_move (.int .i64 c) _ (fun _ _ => Below.refl _ _) rfl rfl (by kernel_rfl) (by kernel_rfl) rfl ?_
                            refine chain_idx (.pointer (some ⟨g, xb * 2, none⟩)) _ _ _ (.slice (some ⟨g, 0, none⟩) k k) (.int .i64 xb) (fun _ _ => Below.refl _ _) rfl rfl (by kernel_rfl) (by kernel_rfl) rfl rfl (fun w1 => idx_t2 _ _ _ _ HFT.out.2.2.2 w1) ?_
                            refine chain_idx (.pointer (some ⟨g, xb * 2 + c, none⟩)) _ _ _ (.pointer (some ⟨g, xb * 2, none⟩)) (.int .i64 c) (fun _ _ => Below.refl _ _) rfl rfl (by kernel_rfl) (by kernel_rfl) rfl rfl (fun w1 => idx_a2 _ _ _ HDD.out w1) ?_
                            refine chain_load (.int .i64 e2) _ _ _ (fun _ _ => Below.refl _ _) rfl rfl (by kernel_rfl) (by kernel_rfl) rfl (fun w1 hC => load_i64 (HE2.out w1 (HOWD.out w1 hC))) ?_
                            refine chain_bin (.bool false) _ _ _ _ _ (.int .i64 ((e1 + 1 : Nat) : Int)) (.int .i64 e2) (fun _ _ => Below.refl _ _) rfl rfl (by kernel_rfl) (by kernel_rfl) rfl rfl (fun w1 => lss_n _ _ _ _ _ _ HLE.out w1) ?_
                            refine chain_pick (.bool false) _ _ _ true (fun _ _ => Below.refl _ _) rfl rfl (by kernel_rfl) (by kernel_rfl) rfl rfl ?_
                            refine chain_end (by rfl) ?_
                            intro xs w6 hCw6 hrew6
                            simp only [layE, List.foldr_cons, List.foldr_nil, List.set_cons_succ, List.set_cons_zero]
                            have HY := Lib.hid (HOWD.out w6 hCw6)
                            clear hCw6 hrew6 HOWD
                            have HT := Lib.hid (HT.out.below HY.out)
                            have HT6 := Lib.hid (HT6.out.below HY.out)
                            clear HY
                            go_wp2_with fail
                            go_roundg (2 - (c + 1))
                            case measure => omega
                            case rel => exact ⟨c + 1, D', ag, by omega, by simp, rfl, HPN, HSN, HT, HT6⟩
                        · have HD2 : Hid (false = decide (c < 2)) := by simp [Hid, hd2]
                          have HPN := Lib.hid (HNO.out (fun h => hd2 h.1))
                          clear HYE HNO HE2 hd2 hku
                          refine wp_region_old 18 120 (by kernel_rfl) (by kernel_rfl) (by rfl) ?_
                          simp only [List.take_succ_cons, List.take_zero, List.drop_succ_cons, List.drop_zero, List.drop_nil]
                          refine chain_move (.int .i64 c) _ (fun _ _ => Below.refl _ _) rfl rfl (by kernel_rfl) (by kernel_rfl) rfl ?_
                          refine chain_bin (.bool false) _ _ _ _ _ (.int .i64 c) (.int .i64 2) (fun _ _ => Below.refl _ _) rfl rfl (by kernel_rfl) (by kernel_rfl) rfl rfl (fun w1 => lss_n _ _ _ _ 2 _ HD2.out w1) ?_
                          refine chain_move (.bool false) _ (fun _ _ => Below.refl _ _) rfl rfl (by kernel_rfl) (by kernel_rfl) rfl ?_
                          refine chain_skip rfl (by kernel_rfl) ?_
                          refine chain_skip rfl (by kernel_rfl) ?_
                          refine chain_skip rfl (by kernel_rfl) ?_
                          refine chain_skip rfl (by kernel_rfl) ?_
                          refine chain_skip rfl (by kernel_rfl) ?_
                          refine chain_skip rfl (by kernel_rfl) ?_
                          refine chain_skip rfl (by kernel_rfl) ?_
                          refine chain_skip rfl (by kernel_rfl) ?_
                          refine chain_skip rfl (by kernel_rfl) ?_
                          refine chain_skip rfl (by kernel_rfl) ?_
                          refine chain_skip rfl (by kernel_rfl) ?_
                          refine chain_skip rfl (by kernel_rfl) ?_
                          refine chain_skip rfl (by kernel_rfl) ?_
                          refine chain_skip rfl (by kernel_rfl) ?_
                          refine chain_pick (.bool false) _ _ _ false (fun _ _ => Below.refl _ _) rfl rfl (by kernel_rfl) (by kernel_rfl) rfl rfl ?_
                          refine chain_end (by rfl) ?_
                          intro xs w6 hCw6 hrew6
                          simp only [layE, List.foldr_cons, List.foldr_nil, List.set_cons_succ, List.set_cons_zero]
                          have HY := Lib.hid (HOWD.out w6 hCw6)
                          clear hCw6 hrew6 HOWD
                          have HT := Lib.hid (HT.out.below HY.out)
                          have HT6 := Lib.hid (HT6.out.below HY.out)
                          clear HY
                          go_wp2_with fail
                          go_roundg (2 - (c + 1))
                          case measure => omega
                          case rel => exact ⟨c + 1, D', ag, by omega, by simp, rfl, HPN, HSN, HT, HT6⟩
                      · have v1 : (zk == 1) = true := by rw [hz]; rfl
                        have HDC := Lib.hid hdc
                        clear hz hdc
                        go_upto_region 27 with (fail)
                        clear z2 v1
                        have hdi : (c : Int) + 1 = (d : Int) := by have := HDC.out; omega
                        have HOWD : Hid (∀ w1, (clOld wr.drew).C w1 → Below wr.heap.size wr w1) := fun w1 hC => old_end (Below.refl _ _) hC (Nat.le_refl _)
                        rewrite [hdi]
                        clear hdi
                        by_cases hd2 : d < 2
                        · have HD2 : Hid (true = decide (d < 2)) := by simp [Hid, hd2]
                          have HDD := Lib.hid hd2
                          replace HE2 := Lib.hid (HE2.out hd2)
                          by_cases hle : e1 + 1 < e2
                          · have HLE : Hid (true = decide (e1 + 1 < e2)) := by simp [Hid, hle]
                            obtain ⟨hp9, hs9⟩ := HYE.out hd2 hle
                            have HPN := Lib.hid hp9
                            have HSN2 := Lib.hid hs9
                            clear hp9 hs9 HYE HNO hle hd2 hku HDC
                            refine wp_region_old 18 120 (by kernel_rfl) (by kernel_rfl) (by rfl) ?_
                            simp only [List.take_succ_cons, List.take_zero, List.drop_succ_cons, List.drop_zero, List.drop_nil]
                            refine chain_move (.int .i64 d) _ (fun _ _ => Below.refl _ _) rfl rfl (by kernel_rfl) (by kernel_rfl) rfl ?_
                            refine chain_bin (.bool true) _ _ _ _ _ (.int .i64 d) (.int .i64 2) (fun _ _ => Below.refl _ _) rfl rfl (by kernel_rfl) (by kernel_rfl) rfl rfl (fun w1 => lss_n _ _ _ _ 2 _ HD2.out w1) ?_
                            refine chain_move (.bool true) _ (fun _ _ => Below.refl _ _) rfl rfl (by kernel_rfl) (by kernel_rfl) rfl ?_
                            refine chain_move (.slice (some ⟨g, 0, none⟩) k k) _ (fun _ _ => Below.refl _ _) rfl rfl (by kernel_rfl) (by kernel_rfl) rfl ?_
                            refine chain_move (.int .i64 xa) _ (fun _ _ => Below.refl _ _) rfl rfl (by kernel_rfl) (by kernel_rfl) rfl ?_
                            refine chain_move (.int .i64 c) _ (fun _ _ => Below.refl _ _) rfl rfl (by kernel_rfl) (by kernel_rfl) rfl ?_
                            refine chain_idx (.pointer (some ⟨g, xa * 2, none⟩)) _ _ _ (.slice (some ⟨g, 0, none⟩) k k) (.int .i64 xa) (fun _ _ => Below.refl _ _) rfl rfl (by kernel_rfl) (by kernel_rfl) rfl rfl (fun w1 => idx_t2 _ _ _ _ HFT.out.2.2.1 w1) ?_
                            refine chain_idx (.pointer (some ⟨g, xa * 2 + c, none⟩)) _ _ _ (.pointer (some ⟨g, xa * 2, none⟩)) (.int .i64 c) (fun _ _ => Below.refl _ _) rfl rfl (by kernel_rfl) (by kernel_rfl) rfl rfl (fun w1 => idx_a2 _ _ _ HC2.out w1) ?_
                            refine chain_load (.int .i64 e1) _ _ _ (fun _ _ => Below.refl _ _) rfl rfl (by kernel_rfl) (by kernel_rfl) rfl (fun w1 hC => load_i64 (HE1.out w1 (HOWD.out w1 hC))) ?_
                            refine chain_bin (.int .i64 ((e1 + 1 : Nat) : Int)) _ _ _ _ _ (.int .i64 e1) (.int .i64 1) (fun _ _ => Below.refl _ _) rfl rfl (by kernel_rfl) (by kernel_rfl) rfl rfl (fun w1 => add_1n _ _ _ _ HE5.out w1) ?_
                            refine chain_move (.slice (some ⟨g, 0, none⟩) k k) _ (fun _ _ => Below.refl _ _) rfl rfl (by kernel_rfl) (by kernel_rfl) rfl ?_
                            refine chain_move (.int .i64 xb) _ (fun _ _ => Below.refl _ _) rfl rfl (by kernel_rfl) (by kernel_rfl) rfl ?_
                            refine chain_move (.int .i64 d) _ (fun _ _ => Below.refl _ _) rfl rfl (by kernel_rfl) (by kernel_rfl) rfl ?_
                            refine chain_idx (.pointer (some ⟨g, xb * 2, none⟩)) _ _ _ (.slice (some ⟨g, 0, none⟩) k k) (.int .i64 xb) (fun _ _ => Below.refl _ _) rfl rfl (by kernel_rfl) (by kernel_rfl) rfl rfl (fun w1 => idx_t2 _ _ _ _ HFT.out.2.2.2 w1) ?_
                            refine chain_idx (.pointer (some ⟨g, xb * 2 + d, none⟩)) _ _ _ (.pointer (some ⟨g, xb * 2, none⟩)) (.int .i64 d) (fun _ _ => Below.refl _ _) rfl rfl (by kernel_rfl) (by kernel_rfl) rfl rfl (fun w1 => idx_a2 _ _ _ HDD.out w1) ?_
                            refine chain_load (.int .i64 e2) _ _ _ (fun _ _ => Below.refl _ _) rfl rfl (by kernel_rfl) (by kernel_rfl) rfl (fun w1 hC => load_i64 (HE2.out w1 (HOWD.out w1 hC))) ?_
                            refine chain_bin (.bool true) _ _ _ _ _ (.int .i64 ((e1 + 1 : Nat) : Int)) (.int .i64 e2) (fun _ _ => Below.refl _ _) rfl rfl (by kernel_rfl) (by kernel_rfl) rfl rfl (fun w1 => lss_n _ _ _ _ _ _ HLE.out w1) ?_
                            refine chain_pick (.bool true) _ _ _ true (fun _ _ => Below.refl _ _) rfl rfl (by kernel_rfl) (by kernel_rfl) rfl rfl ?_
                            refine chain_end (by rfl) ?_
                            intro xs w6 hCw6 hrew6
                            simp only [layE, List.foldr_cons, List.foldr_nil, List.set_cons_succ, List.set_cons_zero]
                            have HY := Lib.hid (HOWD.out w6 hCw6)
                            clear hCw6 hrew6 HOWD
                            have HT := Lib.hid (HT.out.below HY.out)
                            have HT6 := Lib.hid (HT6.out.below HY.out)
                            go_upto_region 28 with (fail)
                            have HOWD : Hid (∀ w1, (clOld w6.drew).C w1 → Below w6.heap.size w6 w1) := fun w1 hC => old_end (Below.refl _ _) hC (Nat.le_refl _)
                            refine wp_region_old 12 120 (by kernel_rfl) (by kernel_rfl) (by rfl) ?_
                            simp only [List.take_succ_cons, List.take_zero, List.drop_succ_cons, List.drop_zero, List.drop_nil]
                            refine chain_move (.slice (some ⟨g, 0, none⟩) k k) _ (fun _ _ => Below.refl _ _) rfl rfl (by kernel_rfl) (by kernel_rfl) rfl ?_
                            refine chain_move (.int .i64 xb) _ (fun _ _ => Below.refl _ _) rfl rfl (by kernel_rfl) (by kernel_rfl) rfl ?_
                            refine chain_move (.int .i64 d) _ (fun _ _ => Below.refl _ _) rfl rfl (by kernel_rfl) (by kernel_rfl) rfl ?_
                            refine chain_move (.slice (some ⟨g, 0, none⟩) k k) _ (fun _ _ => Below.refl _ _) rfl rfl (by kernel_rfl) (by kernel_rfl) rfl ?_
                            refine chain_move (.int .i64 xa) _ (fun _ _ => Below.refl _ _) rfl rfl (by kernel_rfl) (by kernel_rfl) rfl ?_
                            refine chain_move (.int .i64 c) _ (fun _ _ => Below.refl _ _) rfl rfl (by kernel_rfl) (by kernel_rfl) rfl ?_
                            refine chain_idx (.pointer (some ⟨g, xa * 2, none⟩)) _ _ _ (.slice (some ⟨g, 0, none⟩) k k) (.int .i64 xa) (fun _ _ => Below.refl _ _) rfl rfl (by kernel_rfl) (by kernel_rfl) rfl rfl (fun w1 => idx_t2 _ _ _ _ HFT.out.2.2.1 w1) ?_
                            refine chain_idx (.pointer (some ⟨g, xa * 2 + c, none⟩)) _ _ _ (.pointer (some ⟨g, xa * 2, none⟩)) (.int .i64 c) (fun _ _ => Below.refl _ _) rfl rfl (by kernel_rfl) (by kernel_rfl) rfl rfl (fun w1 => idx_a2 _ _ _ HC2.out w1) ?_
                            refine chain_load (.int .i64 e1) _ _ _ (fun _ _ => Below.refl _ _) rfl rfl (by kernel_rfl) (by kernel_rfl) rfl (fun w1 hC => load_i64 (HE1.out w1 (HY.out.trans ((HOWD.out w1 hC).mono HY.out.size)))) ?_
                            refine chain_bin (.int .i64 ((e1 + 1 : Nat) : Int)) _ _ _ _ _ (.int .i64 e1) (.int .i64 1) (fun _ _ => Below.refl _ _) rfl rfl (by kernel_rfl) (by kernel_rfl) rfl rfl (fun w1 => add_1n _ _ _ _ HE5.out w1) ?_
                            refine chain_idx (.pointer (some ⟨g, xb * 2, none⟩)) _ _ _ (.slice (some ⟨g, 0, none⟩) k k) (.int .i64 xb) (fun _ _ => Below.refl _ _) rfl rfl (by kernel_rfl) (by kernel_rfl) rfl rfl (fun w1 => idx_t2 _ _ _ _ HFT.out.2.2.2 w1) ?_
                            refine chain_idx (.pointer (some ⟨g, xb * 2 + d, none⟩)) _ _ _ (.pointer (some ⟨g, xb * 2, none⟩)) (.int .i64 d) (fun _ _ => Below.refl _ _) rfl rfl (by kernel_rfl) (by kernel_rfl) rfl rfl (fun w1 => idx_a2 _ _ _ HDD.out w1) ?_
                            refine chain_end (by rfl) ?_
                            intro xs w7 hCw7 hrew7
                            simp only [layE, List.foldr_cons, List.foldr_nil, List.set_cons_succ, List.set_cons_zero]
                            have HY2 := Lib.hid (HOWD.out w7 hCw7)
                            clear hCw7 hrew7 HOWD
                            have HT := Lib.hid (HT.out.below HY2.out)
                            have HT6 := Lib.hid (HT6.out.below HY2.out)
                            have d0 := HE2.out w7 (HY.out.trans (HY2.out.mono HY.out.size))
                            have f0 := HT.out.2.frozen (xb * 2 + d)
                            clear HY HY2 HE1 HE2
                            go_wp2_with fail
                            go_roundg (2 - (c + 1))
                            case measure => omega
                            case rel => exact ⟨c + 1, D'.set (xb * 2 + d) (e1 + 1), true, by omega, by simp, rfl, HPN, HSN2, HT.out.set_ HGB.out _ _, HT6.out.only ((Only.refl g _).set_ _ _) (by have := HG6.out; omega)⟩
                          · have HLE : Hid (false = decide (e1 + 1 < e2)) := by simp [Hid, hle]
                            have HPN := Lib.hid (HNO.out (fun h => hle h.2))
                            clear HYE HNO hle hd2 hku
                            refine wp_region_old 18 120 (by kernel_rfl) (by kernel_rfl) (by rfl) ?_
                            simp only [List.take_succ_cons, List.take_zero, List.drop_succ_cons, List.drop_zero, List.drop_nil]
                            refine chain_move (.int .i64 d) _ (fun _ _ => Below.refl _ _) rfl rfl (by kernel_rfl) (by kernel_rfl) rfl ?_
                            refine chain_bin (.bool true) _ _ _ _ _ (.int .i64 d) (.int .i64 2) (fun _ _ => Below.refl _ _) rfl rfl (by kernel_rfl) (by kernel_rfl) rfl rfl (fun w1 => lss_n _ _ _ _ 2 _ HD2.out w1) ?_
                            refine chain_move (.bool true) _ (fun _ _ => Below.refl _ _) rfl rfl (by kernel_rfl) (by kernel_rfl) rfl ?_
                            refine chain_move (.slice (some ⟨g, 0, none⟩) k k) _ (fun _ _ => Below.refl _ _) rfl rfl (by kernel_rfl) (by kernel_rfl) rfl ?_
                            refine chain_move (.int .i64 xa) _ (fun _ _ => Below.refl _ _) rfl rfl (by kernel_rfl) (by kernel_rfl) rfl ?_
                            refine chain_move (.int .i64 c) _ (fun _ _ => Below.refl _ _) rfl rfl (by kernel_rfl) (by kernel_rfl) rfl ?_
                            refine chain_idx (.pointer (some ⟨g, xa * 2, none⟩)) _ _ _ (.slice (some ⟨g, 0, none⟩) k k) (.int .i64 xa) (fun _ _ => Below.refl _ _) rfl rfl (by kernel_rfl) (by kernel_rfl) rfl rfl (fun w1 => idx_t2 _ _ _ _ HFT.out.2.2.1 w1) ?_
                            refine chain_idx (.pointer (some ⟨g, xa * 2 + c, none⟩)) _ _ _ (.pointer (some ⟨g, xa * 2, none⟩)) (.int .i64 c) (fun _ _ => Below.refl _ _) rfl rfl (by kernel_rfl) (by kernel_rfl) rfl rfl (fun w1 => idx_a2 _ _ _ HC2.out w1) ?_
                            refine chain_load (.int .i64 e1) _ _ _ (fun _ _ => Below.refl _ _) rfl rfl (by kernel_rfl) (by kernel_rfl) rfl (fun w1 hC => load_i64 (HE1.out w1 (HOWD.out w1 hC))) ?_
                            refine chain_bin (.int .i64 ((e1 + 1 : Nat) : Int)) _ _ _ _ _ (.int .i64 e1) (.int .i64 1) (fun _ _ => Below.refl _ _) rfl rfl (by kernel_rfl) (by kernel_rfl) rfl rfl (fun w1 => add_1n _ _ _ _ HE5.out w1) ?_
                            refine chain_move (.slice (some ⟨g, 0, none⟩) k k) _ (fun _ _ => Below.refl _ _) rfl rfl (by kernel_rfl) (by kernel_rfl) rfl ?_
                            refine chain_move (.int .i64 xb) _ (fun _ _ => Below.refl _ _) rfl rfl (by kernel_rfl) (by kernel_rfl) rfl ?_
                            refine chain_move (.int .i64 d) _ (fun _ _ => Below.refl _ _) rfl rfl (by kernel_rfl) (by kernel_rfl) rfl ?_
                            refine chain_idx (.pointer (some ⟨g, xb * 2, none⟩)) _ _ _ (.slice (some ⟨g, 0, none⟩) k k) (.int .i64 xb) (fun _ _ => Below.refl _ _) rfl rfl (by kernel_rfl) (by kernel_rfl) rfl rfl (fun w1 => idx_t2 _ _ _ _ HFT.out.2.2.2 w1) ?_
                            refine chain_idx (.pointer (some ⟨g, xb * 2 + d, none⟩)) _ _ _ (.pointer (some ⟨g, xb * 2, none⟩)) (.int .i64 d) (fun _ _ => Below.refl _ _) rfl rfl (by kernel_rfl) (by kernel_rfl) rfl rfl (fun w1 => idx_a2 _ _ _ HDD.out w1) ?_
                            refine chain_load (.int .i64 e2) _ _ _ (fun _ _ => Below.refl _ _) rfl rfl (by kernel_rfl) (by kernel_rfl) rfl (fun w1 hC => load_i64 (HE2.out w1 (HOWD.out w1 hC))) ?_
                            refine chain_bin (.bool false) _ _ _ _ _ (.int .i64 ((e1 + 1 : Nat) : Int)) (.int .i64 e2) (fun _ _ => Below.refl _ _) rfl rfl (by kernel_rfl) (by kernel_rfl) rfl rfl (fun w1 => lss_n _ _ _ _ _ _ HLE.out w1) ?_
                            refine chain_pick (.bool false) _ _ _ true (fun _ _ => Below.refl _ _) rfl rfl (by kernel_rfl) (by kernel_rfl) rfl rfl ?_
                            refine chain_end (by rfl) ?_
                            intro xs w6 hCw6 hrew6
                            simp only [layE, List.foldr_cons, List.foldr_nil, List.set_cons_succ, List.set_cons_zero]
                            have HY := Lib.hid (HOWD.out w6 hCw6)
                            clear hCw6 hrew6 HOWD
                            have HT := Lib.hid (HT.out.below HY.out)
                            have HT6 := Lib.hid (HT6.out.below HY.out)
                            clear HY
                            go_wp2_with fail
                            go_roundg (2 - (c + 1))
                            case measure => omega
                            case rel => exact ⟨c + 1, D', ag, by omega, by simp, rfl, HPN, HSN, HT, HT6⟩
                        · have HD2 : Hid (false = decide (d < 2)) := by simp [Hid, hd2]
                          have HPN := Lib.hid (HNO.out (fun h => hd2 h.1))
                          clear HYE HNO HE2 hd2 hku
                          refine wp_region_old 18 120 (by kernel_rfl) (by kernel_rfl) (by rfl) ?_
                          simp only [List.take_succ_cons, List.take_zero, List.drop_succ_cons, List.drop_zero, List.drop_nil]
                          refine chain_move (.int .i64 d) _ (fun _ _ => Below.refl _ _) rfl rfl (by kernel_rfl) (by kernel_rfl) rfl ?_
                          refine chain_bin (.bool false) _ _ _ _ _ (.int .i64 d) (.int .i64 2) (fun _ _ => Below.refl _ _) rfl rfl (by kernel_rfl) (by kernel_rfl) rfl rfl (fun w1 => lss_n _ _ _ _ 2 _ HD2.out w1) ?_
                          refine chain_move (.bool false) _ (fun _ _ => Below.refl _ _) rfl rfl (by kernel_rfl) (by kernel_rfl) rfl ?_
                          refine chain_skip rfl (by kernel_rfl) ?_
                          refine chain_skip rfl (by kernel_rfl) ?_
                          refine chain_skip rfl (by kernel_rfl) ?_
                          refine chain_skip rfl (by kernel_rfl) ?_
                          refine chain_skip rfl (by kernel_rfl) ?_
                          refine chain_skip rfl (by kernel_rfl) ?_
                          refine chain_skip rfl (by kernel_rfl) ?_
                          refine chain_skip rfl (by kernel_rfl) ?_
                          refine chain_skip rfl (by kernel_rfl) ?_
                          refine chain_skip rfl (by kernel_rfl) ?_
                          refine chain_skip rfl (by kernel_rfl) ?_
                          refine chain_skip rfl (by kernel_rfl) ?_
                          refine chain_skip rfl (by kernel_rfl) ?_
                          refine chain_skip rfl (by kernel_rfl) ?_
                          refine chain_pick (.bool false) _ _ _ false (fun _ _ => Below.refl _ _) rfl rfl (by kernel_rfl) (by kernel_rfl) rfl rfl ?_
                          refine chain_end (by rfl) ?_
                          intro xs w6 hCw6 hrew6
                          simp only [layE, List.foldr_cons, List.foldr_nil, List.set_cons_succ, List.set_cons_zero]
                          have HY := Lib.hid (HOWD.out w6 hCw6)
                          clear hCw6 hrew6 HOWD
                          have HT := Lib.hid (HT.out.below HY.out)
                          have HT6 := Lib.hid (HT6.out.below HY.out)
                          clear HY
                          go_wp2_with fail
                          go_roundg (2 - (c + 1))
                          case measure => omega
                          case rel => exact ⟨c + 1, D', ag, by omega, by simp, rfl, HPN, HSN, HT, HT6⟩
                    · have hc3 : c = 2 := by omega
                      subst hc3
                      have HPN : Hid (Pas ts D (4 * i + 2 * 1) D' ag) := HP.out.cast (by omega)
                      have hk2 := hku.out (by omega)
                      clear HP
                      go_wp2_with fail
                      go_roundg (2 - (0 + 1))
                      case measure => exact hk2
                      case rel => exact ⟨1, D', ag, by omega, by simp, rfl, HPN, HSN, HT, HT6⟩
                · -- from b xa a
                  have HF : Hid (fromN ⟨xa, xb, zk, zs, zr⟩ 1 = xb ∧ toN ⟨xa, xb, zk, zs, zr⟩ 1 = xa) := ⟨by simp [fromN], by simp [toN]⟩
                  have HFT : Hid (fromN ⟨xa, xb, zk, zs, zr⟩ 1 = xb ∧ toN ⟨xa, xb, zk, zs, zr⟩ 1 = xa ∧ xb < k ∧ xa < k) := ⟨HF.out.1, HF.out.2, HAB.out.2, HAB.out.1⟩
                  go_upto_region 18 with (fail)
                  have HOWD : Hid (∀ w1, (clOld wr.drew).C w1 → Below wr.heap.size wr w1) := fun w1 hC => old_end (Below.refl _ _) hC (Nat.le_refl _)
                  refine wp_region_old 6 120 (by kernel_rfl) (by kernel_rfl) (by rfl) ?_
                  simp only [List.take_succ_cons, List.take_zero, List.drop_succ_cons, List.drop_zero, List.drop_nil]
                  refine chain_val (.pointer (some ⟨b6, 0, none⟩)) (fun _ _ => Below.refl _ _) rfl (by intro cs b h; cases h) (by kernel_rfl) (by kernel_rfl) (fun w1 _ => by simp [execOp, evE, lk_cons, lk_nil, slotL, go_sem]) ?_
                  refine chain_load (.int .i64 xa) _ _ _ (fun _ _ => Below.refl _ _) rfl rfl (by kernel_rfl) (by kernel_rfl) rfl (fun w1 hC => load_i64 ((HT6.out.below (HOWD.out w1 hC)).cell rfl)) ?_
                  refine chain_val (.pointer (some ⟨b6, 1, none⟩)) (fun _ _ => Below.refl _ _) rfl (by intro cs b h; cases h) (by kernel_rfl) (by kernel_rfl) (fun w1 _ => by simp [execOp, evE, lk_cons, lk_nil, slotL, go_sem]) ?_
                  refine chain_load (.int .i64 xb) _ _ _ (fun _ _ => Below.refl _ _) rfl rfl (by kernel_rfl) (by kernel_rfl) rfl (fun w1 hC => load_i64 ((HT6.out.below (HOWD.out w1 hC)).cell rfl)) ?_
                  refine chain_assign (.int .i64 xa) _ (fun _ _ => Below.refl _ _) rfl rfl (by kernel_rfl) (by kernel_rfl) rfl ?_
                  refine chain_assign (.int .i64 xb) _ (fun _ _ => Below.refl _ _) rfl rfl (by kernel_rfl) (by kernel_rfl) rfl ?_
                  refine chain_end (by rfl) ?_
                  intro xs w5 hCw5 hrew5
                  simp only [layE, List.foldr_cons, List.foldr_nil, List.set_cons_succ, List.set_cons_zero]
                  have HY := Lib.hid (HOWD.out w5 hCw5)
                  clear hCw5 hrew5 HOWD
                  replace HT := Lib.hid (HT.out.below HY.out)
                  replace HT6 := Lib.hid (HT6.out.below HY.out)
                  clear HY
                  go_upto_region 20 with (fail)
                  have HOWD : Hid (∀ w1, (clOld w5.drew).C w1 → Below w5.heap.size w5 w1) := fun w1 hC => old_end (Below.refl _ _) hC (Nat.le_refl _)
                  refine wp_region_old 6 120 (by kernel_rfl) (by kernel_rfl) (by rfl) ?_
                  simp only [List.take_succ_cons, List.take_zero, List.drop_succ_cons, List.drop_zero, List.drop_nil]
                  refine chain_val (.pointer (some ⟨b6, 1, none⟩)) (fun _ _ => Below.refl _ _) rfl (by intro cs b h; cases h) (by kernel_rfl) (by kernel_rfl) (fun w1 _ => by simp [execOp, evE, lk_cons, lk_nil, slotL, go_sem]) ?_
                  refine chain_load (.int .i64 xb) _ _ _ (fun _ _ => Below.refl _ _) rfl rfl (by kernel_rfl) (by kernel_rfl) rfl (fun w1 hC => load_i64 ((HT6.out.below (HOWD.out w1 hC)).cell rfl)) ?_
                  refine chain_val (.pointer (some ⟨b6, 0, none⟩)) (fun _ _ => Below.refl _ _) rfl (by intro cs b h; cases h) (by kernel_rfl) (by kernel_rfl) (fun w1 _ => by simp [execOp, evE, lk_cons, lk_nil, slotL, go_sem]) ?_
                  refine chain_load (.int .i64 xa) _ _ _ (fun _ _ => Below.refl _ _) rfl rfl (by kernel_rfl) (by kernel_rfl) rfl (fun w1 hC => load_i64 ((HT6.out.below (HOWD.out w1 hC)).cell rfl)) ?_
                  refine chain_assign (.int .i64 xb) _ (fun _ _ => Below.refl _ _) rfl rfl (by kernel_rfl) (by kernel_rfl) rfl ?_
                  refine chain_assign (.int .i64 xa) _ (fun _ _ => Below.refl _ _) rfl rfl (by kernel_rfl) (by kernel_rfl) rfl ?_
                  refine chain_end (by rfl) ?_
                  intro xs w8 hCw8 hrew8
                  simp only [layE, List.foldr_cons, List.foldr_nil, List.set_cons_succ, List.set_cons_zero]
                  have HY := Lib.hid (HOWD.out w8 hCw8)
                  clear hCw8 hrew8 HOWD
                  replace HT := Lib.hid (HT.out.below HY.out)
                  replace HT6 := Lib.hid (HT6.out.below HY.out)
                  clear HY HF
                  go_wp2_with fail
                  have HPX : Hid (Pas ts D (4 * i + 2 * 1 + 0) D' ag) := HP.out
                  go_loopg [12, 18, 19] 2 (fun gk t12 t18 t19 wr => ∃ (c : Nat) (D' : List Nat) (ag : Bool), c + gk = 2 ∧ t18 = .int .i64 c ∧ t12 = .bool ag ∧ Hid (Pas ts D (4 * i + 2 * 1 + c) D' ag) ∧ Hid (Snd ts k x D') ∧ Hid (LT w wr [.int .i64 k, .slice (some ⟨lb, lo, none⟩) m cap] g D') ∧ Hid (Blk wr b6 [.int .i64 xa, .int .i64 xb, .int .i64 zk, .int .i64 zs, .int .i64 zr] 43))
                  case atStart => exact ⟨0, D', ag, by omega, rfl, rfl, HPX, HSN, HT, HT6⟩
                  case round =>
                    clear HPX HP HSN HT HT6
                    obtain ⟨c, D', ag, hcg, rfl, rfl, HP, HSN, HT, HT6⟩ := hrel
                    by_cases hc2 : c < 2
                    · have HC2 := Lib.hid hc2
                      have z2 := HT6.out.cell (i := 2) rfl
                      have HE5 : Hid (dat D' (2 * xb + c) ≤ 100000) := by have := HSN.out.far (2 * xb + c); rw [Hid]; omega
                      obtain ⟨d, hd⟩ : ∃ d, d = c + cutN ⟨xa, xb, zk, zs, zr⟩ := ⟨_, rfl⟩
                      have HE1 : Hid (∀ W, Below wr.heap.size wr W → W.cell? ⟨g, xb * 2 + c, none⟩ = some (.int .i64 (dat D' (2 * xb + c) : Nat))) := fun W hb => by have := (HT.out.below hb).at_ (i := xb * 2 + c) (by rw [HSN.out.len]; have := HFT.out; omega); rw [this, Nat.mul_comm xb 2]
                      have HE2 : Hid (d < 2 → ∀ W, Below wr.heap.size wr W → W.cell? ⟨g, xa * 2 + d, none⟩ = some (.int .i64 (dat D' (2 * xa + d) : Nat))) := fun h W hb => by have := (HT.out.below hb).at_ (i := xa * 2 + d) (by rw [HSN.out.len]; have := HFT.out; omega); rw [this, Nat.mul_comm xa 2]
                      have HNO : Hid (¬ (d < 2 ∧ dat D' (2 * xb + c) + 1 < dat D' (2 * xa + d)) → Pas ts D (4 * i + 2 * 1 + (c + 1)) D' ag) := fun h => HP.out.keep HTI.out (by omega) HC2.out (fun h2 => by rw [HFT.out.1, HFT.out.2.1]; rw [← hd] at h2 ⊢; omega)
                      have HYE : Hid (d < 2 → dat D' (2 * xb + c) + 1 < dat D' (2 * xa + d) → Pas ts D (4 * i + 2 * 1 + (c + 1)) (D'.set (xa * 2 + d) (dat D' (2 * xb + c) + 1)) true ∧ Snd ts k x (D'.set (xa * 2 + d) (dat D' (2 * xb + c) + 1))) := fun h2 h3 => by
                        rw [Nat.mul_comm xa 2]
                        refine ⟨HP.out.less (by rw [HSN.out.len]; have := HFT.out; omega) h3, ?_⟩
                        have h4 := HSN.out.relax HV.out (u := 1) (c := c) HTI.out (by rw [← hd]; exact h2) (by rw [← hd, HFT.out.1, HFT.out.2.1]; exact h3)
                        rw [← hd, HFT.out.1, HFT.out.2.1] at h4; exact h4
                      obtain ⟨e1, he1⟩ : ∃ e1, e1 = dat D' (2 * xb + c) := ⟨_, rfl⟩
                      obtain ⟨e2, he2⟩ : ∃ e2, e2 = dat D' (2 * xa + d) := ⟨_, rfl⟩
                      rw [← he1] at HE1 HE5 HNO HYE
                      rw [← he2] at HE2 HNO HYE
                      clear he1 he2 HP
                      have hzk : (zk = 2 ∧ d = c) ∨ (zk = 1 ∧ d = c + 1) := by
                        rcases HKD.out with h | h
                        · exact .inl ⟨h, by rw [hd]; unfold cutN; simp only at h ⊢; rw [h]; rfl⟩
                        · exact .inr ⟨h, by rw [hd]; unfold cutN; simp only at h ⊢; rw [h]; rfl⟩
                      clear hd
                      rcases hzk with ⟨hz, hdc⟩ | ⟨hz, hdc⟩
                      · have v1 : (zk == 1) = false := by rw [hz]; rfl
                        have HDC := Lib.hid hdc
                        clear hz hdc
                        go_upto_region 27 with (fail)
                        clear z2 v1
                        have hdi : (c : Int) = (d : Int) := by have := HDC.out; omega
                        have HOWD : Hid (∀ w1, (clOld wr.drew).C w1 → Below wr.heap.size wr w1) := fun w1 hC => old_end (Below.refl _ _) hC (Nat.le_refl _)
                        clear hdi
                        have h : c = d := HDC.out.symm
                        subst h
                        by_cases hd2 : c < 2
                        · have HD2 : Hid (true = decide (c < 2)) := by simp [Hid, hd2]
                          have HDD := Lib.hid hd2
                          replace HE2 := Lib.hid (HE2.out hd2)
                          by_cases hle : e1 + 1 < e2
                          · have HLE : Hid (true = decide (e1 + 1 < e2)) := by simp [Hid, hle]
                            obtain ⟨hp9, hs9⟩ := HYE.out hd2 hle
                            have HPN := Lib.hid hp9
                            have HSN2 := Lib.hid hs9
                            clear hp9 hs9 HYE HNO hle hd2 hku
                            refine wp_region_old 18 120 (by kernel_rfl) (by kernel_rfl) (by rfl) ?_
                            simp only [List.take_succ_cons, List.take_zero, List.drop_succ_cons, List.drop_zero, List.drop_nil]
                            refine chain_move (.int .i64 c) _ (fun _ _ => Below.refl _ _) rfl rfl (by kernel_rfl) (by kernel_rfl) rfl ?_
                            refine chain_bin (.bool true) _ _ _ _ _ (.int .i64 c) (.int .i64 2) (fun _ _ => Below.refl _ _) rfl rfl (by kernel_rfl) (by kernel_rfl) rfl rfl (fun w1 => lss_n _ _ _ _ 2 _ HD2.out w1) ?_
                            refine chain_move (.bool true) _ (fun _ _ => Below.refl _ _) rfl rfl (by kernel_rfl) (by kernel_rfl) rfl ?_
                            refine chain_move (.slice (some ⟨g, 0, none⟩) k k) _ (fun _ _ => Below.refl _ _) rfl rfl (by kernel_rfl) (by kernel_rfl) rfl ?_
                            refine chain_move (.int .i64 xb) _ (fun _ _ => Below.refl _ _) rfl rfl (by kernel_rfl) (by kernel_rfl) rfl ?_
                            refine chain_move (.int .i64 c) _ (fun _ _ => Below.refl _ _) rfl rfl (by kernel_rfl) (by kernel_rfl) rfl ?_
                            refine chain_idx (.pointer (some ⟨g, xb * 2, none⟩)) _ _ _ (.slice (some ⟨g, 0, none⟩) k k) (.int .i64 xb) (fun _ _ => Below.refl _ _) rfl rfl (by kernel_rfl) (by kernel_rfl) rfl rfl (fun w1 => idx_t2 _ _ _ _ HFT.out.2.2.1 w1) ?_
                            refine chain_idx (.pointer (some ⟨g, xb * 2 + c, none⟩)) _ _ _ (.pointer (some ⟨g, xb * 2, none⟩)) (.int .i64 c) (fun _ _ => Below.refl _ _) rfl rfl (by kernel_rfl) (by kernel_rfl) rfl rfl (fun w1 => idx_a2 _ _ _ HC2.out w1) ?_
                            refine chain_load (.int .i64 e1) _ _ _ (fun _ _ => Below.refl _ _) rfl rfl (by kernel_rfl) (by kernel_rfl) rfl (fun w1 hC => load_i64 (HE1.out w1 (HOWD.out w1 hC))) ?_
                            refine chain_bin (.int .i64 ((e1 + 1 : Nat) : Int)) _ _ _ _ _ (.int .i64 e1) (.int .i64 1) (fun _ _ => Below.refl _ _) rfl rfl (by kernel_rfl) (by kernel_rfl) rfl rfl (fun w1 => add_1n _ _ _ _ HE5.out w1) ?_
                            refine chain_move (.slice (some ⟨g, 0, none⟩) k k) _ (fun _ _ => Below.refl _ _) rfl rfl (by kernel_rfl) (by kernel_rfl) rfl ?_
                            refine chain_move (.int .i64 xa) _ (fun _ _ => Below.refl _ _) rfl rfl (by kernel_rfl) (by kernel_rfl) rfl ?_
                            refine chain_move (.int .i64 c) _ (fun _ _ => Below.refl _ _) rfl rfl (by kernel_rfl) (by kernel_rfl) rfl ?_
                            refine chain_idx (.pointer (some ⟨g, xa * 2, none⟩)) _ _ _ (.slice (some ⟨g, 0, none⟩) k k) (.int .i64 xa) (fun _ _ => Below.refl _ _) rfl rfl (by kernel_rfl) (by kernel_rfl) rfl rfl (fun w1 => idx_t2 _ _ _ _ HFT.out.2.2.2 w1) ?_
                            refine chain_idx (.pointer (some ⟨g, xa * 2 + c, none⟩)) _ _ _ (.pointer (some ⟨g, xa * 2, none⟩)) (.int .i64 c) (fun _ _ => Below.refl _ _) rfl rfl (by kernel_rfl) (by kernel_rfl) rfl rfl (fun w1 => idx_a2 _ _ _ HDD.out w1) ?_
                            refine chain_load (.int .i64 e2) _ _ _ (fun _ _ => Below.refl _ _) rfl rfl (by kernel_rfl) (by kernel_rfl) rfl (fun w1 hC => load_i64 (HE2.out w1 (HOWD.out w1 hC))) ?_
                            refine chain_bin (.bool true) _ _ _ _ _ (.int .i64 ((e1 + 1 : Nat) : Int)) (.int .i64 e2) (fun _ _ => Below.refl _ _) rfl rfl (by kernel_rfl) (by kernel_rfl) rfl rfl (fun w1 => lss_n _ _ _ _ _ _ HLE.out w1) ?_
                            refine chain_pick (.bool true) _ _ _ true (fun _ _ => Below.refl _ _) rfl rfl (by kernel_rfl) (by kernel_rfl) rfl rfl ?_
                            refine chain_end (by rfl) ?_
                            intro xs w6 hCw6 hrew6
                            simp only [layE, List.foldr_cons, List.foldr_nil, List.set_cons_succ, List.set_cons_zero]
                            have HY := Lib.hid (HOWD.out w6 hCw6)
                            clear hCw6 hrew6 HOWD
                            have HT := Lib.hid (HT.out.below HY.out)
                            have HT6 := Lib.hid (HT6.out.below HY.out)
                            go_upto_region 28 with (fail)
                            have HOWD : Hid (∀ w1, (clOld w6.drew).C w1 → Below w6.heap.size w6 w1) := fun w1 hC => old_end (Below.refl _ _) hC (Nat.le_refl _)
                            refine wp_region_old 12 120 (by kernel_rfl) (by kernel_rfl) (by rfl) ?_
                            simp only [List.take_succ_cons, List.take_zero, List.drop_succ_cons, List.drop_zero, List.drop_nil]
                            refine chain_move (.slice (some ⟨g, 0, none⟩) k k) _ (fun _ _ => Below.refl _ _) rfl rfl (by kernel_rfl) (by kernel_rfl) rfl ?_
                            refine chain_move (.int .i64 xa) _ (fun _ _ => Below.refl _ _) rfl rfl (by kernel_rfl) (by kernel_rfl) rfl ?_
                            refine chain_move (.int .i64 c) _ (fun _ _ => Below.refl _ _) rfl rfl (by kernel_rfl) (by kernel_rfl) rfl ?_
                            refine chain_move (.slice (some ⟨g, 0, none⟩) k k) _ (fun _ _ => Below.refl _ _) rfl rfl (by kernel_rfl) (by kernel_rfl) rfl ?_
                            refine chain_move (.int .i64 xb) _ (fun _ _ => Below.refl _ _) rfl rfl (by kernel_rfl) (by kernel_rfl) rfl ?_
                            refine chain_move (.int .i64 c) _ (fun _ _ => Below.refl _ _) rfl rfl (by kernel_rfl) (by kernel_rfl) rfl ?_
                            refine chain_idx (.pointer (some ⟨g, xb * 2, none⟩)) _ _ _ (.slice (some ⟨g, 0, none⟩) k k) (.int .i64 xb) (fun _ _ => Below.refl _ _) rfl rfl (by kernel_rfl) (by kernel_rfl) rfl rfl (fun w1 => idx_t2 _ _ _ _ HFT.out.2.2.1 w1) ?_
                            refine chain_idx (.pointer (some ⟨g, xb * 2 + c, none⟩)) _ _ _ (.pointer (some ⟨g, xb * 2, none⟩)) (.int .i64 c) (fun _ _ => Below.refl _ _) rfl rfl (by kernel_rfl) (by kernel_rfl) rfl rfl (fun w1 => idx_a2 _ _ _ HC2.out w1) ?_
                            refine chain_load (.int .i64 e1) _ _ _ (fun _ _ => Below.refl _ _) rfl rfl (by kernel_rfl) (by kernel_rfl) rfl (fun w1 hC => load_i64 (HE1.out w1 (HY.out.trans ((HOWD.out w1 hC).mono HY.out.size)))) ?_
                            refine chain_bin (.int .i64 ((e1 + 1 : Nat) : Int)) _ _ _ _ _ (.int .i64 e1) (.int .i64 1) (fun _ _ => Below.refl _ _) rfl rfl (by kernel_rfl) (by kernel_rfl) rfl rfl (fun w1 => add_1n _ _ _ _ HE5.out w1) ?_
                            refine chain_idx (.pointer (some ⟨g, xa * 2, none⟩)) _ _ _ (.slice (some ⟨g, 0, none⟩) k k) (.int .i64 xa) (fun _ _ => Below.refl _ _) rfl rfl (by kernel_rfl) (by kernel_rfl) rfl rfl (fun w1 => idx_t2 _ _ _ _ HFT.out.2.2.2 w1) ?_
                            refine chain_idx (.pointer (some ⟨g, xa * 2 + c, none⟩)) _ _ _ (.pointer (some ⟨g, xa * 2, none⟩)) (.int .i64 c) (fun _ _ => Below.refl _ _) rfl rfl (by kernel_rfl) (by kernel_rfl) rfl rfl (fun w1 => idx_a2 _ _ _ HDD.out w1) ?_
                            refine chain_end (by rfl) ?_
                            intro xs w7 hCw7 hrew7
                            simp only [layE, List.foldr_cons, List.foldr_nil, List.set_cons_succ, List.set_cons_zero]
                            have HY2 := Lib.hid (HOWD.out w7 hCw7)
                            clear hCw7 hrew7 HOWD
                            have HT := Lib.hid (HT.out.below HY2.out)
                            have HT6 := Lib.hid (HT6.out.below HY2.out)
                            have d0 := HE2.out w7 (HY.out.trans (HY2.out.mono HY.out.size))
                            have f0 := HT.out.2.frozen (xa * 2 + c)
                            clear HY HY2 HE1 HE2
                            go_wp2_with fail
                            go_roundg (2 - (c + 1))
                            case measure => omega
                            case rel => exact ⟨c + 1, D'.set (xa * 2 + c) (e1 + 1), true, by omega, by simp, rfl, HPN, HSN2, HT.out.set_ HGB.out _ _, HT6.out.only ((Only.refl g _).set_ _ _) (by have := HG6.out; omega)⟩
                          · have HLE : Hid (false = decide (e1 + 1 < e2)) := by simp [Hid, hle]
                            have HPN := Lib.hid (HNO.out (fun h => hle h.2))
                            clear HYE HNO hle hd2 hku
                            refine wp_region_old 18 120 (by kernel_rfl) (by kernel_rfl) (by rfl) ?_
                            simp only [List.take_succ_cons, List.take_zero, List.drop_succ_cons, List.drop_zero, List.drop_nil]
                            refine chain_move (.int .i64 c) _ (fun _ _ => Below.refl _ _) rfl rfl (by kernel_rfl) (by kernel_rfl) rfl ?_
                            refine chain_bin (.bool true) _ _ _ _ _ (.int .i64 c) (.int .i64 2) (fun _ _ => Below.refl _ _) rfl rfl (by kernel_rfl) (by kernel_rfl) rfl rfl (fun w1 => lss_n _ _ _ _ 2 _ HD2.out w1) ?_
                            refine chain_move (.bool true) _ (fun _ _ => Below.refl _ _) rfl rfl (by kernel_rfl) (by kernel_rfl) rfl ?_
                            refine chain_move (.slice (some ⟨g, 0, none⟩) k k) _ (fun _ _ => Below.refl _ _) rfl rfl (by kernel_rfl) (by kernel_rfl) rfl ?_
                            refine chain_move (.int .i64 xb) _ (fun _ _ => Below.refl _ _) rfl rfl (by kernel_rfl) (by kernel_rfl) rfl ?_
                            refine chain_move (.int .i64 c) _ (fun _ _ => Below.refl _ _) rfl rfl (by kernel_rfl) (by kernel_rfl) rfl ?_
                            refine chain_idx (.pointer (some ⟨g, xb * 2, none⟩)) _ _ _ (.slice (some ⟨g, 0, none⟩) k k) (.int .i64 xb) (fun _ _ => Below.refl _ _) rfl rfl (by kernel_rfl) (by kernel_rfl) rfl rfl (fun w1 => idx_t2 _ _ _ _ HFT.out.2.2.1 w1) ?_
                            refine chain_idx (.pointer (some ⟨g, xb * 2 + c, none⟩)) _ _ _ (.pointer (some ⟨g, xb * 2, none⟩)) (.int .i64 c) (fun _ _ => Below.refl _ _) rfl rfl (by kernel_rfl) (by kernel_rfl) rfl rfl (fun w1 => idx_a2 _ _ _ HC2.out w1) ?_
                            refine chain_load (.int .i64 e1) _ _ _ (fun _ _ => Below.refl _ _) rfl rfl (by kernel_rfl) (by kernel_rfl) rfl (fun w1 hC => load_i64 (HE1.out w1 (HOWD.out w1 hC))) ?_
                            refine chain_bin (.int .i64 ((e1 + 1 : Nat) : Int)) _ _ _ _ _ (.int .i64 e1) (.int .i64 1) (fun _ _ => Below.refl _ _) rfl rfl (by kernel_rfl) (by kernel_rfl) rfl rfl (fun w1 => add_1n _ _ _ _ HE5.out w1) ?_
                            refine chain_move (.slice (some ⟨g, 0, none⟩) k k) _ (fun _ _ => Below.refl _ _) rfl rfl (by kernel_rfl) (by kernel_rfl) rfl ?_
                            refine chain_move (.int .i64 xa) _ (fun _ _ => Below.refl _ _) rfl rfl (by kernel_rfl) (by kernel_rfl) rfl ?_
                            refine chain_move (.int .i64 c) _ (fun _ _ => Below.refl _ _) rfl rfl (by kernel_rfl) (by kernel_rfl) rfl ?_
                            refine chain_idx (.pointer (some ⟨g, xa * 2, none⟩)) _ _ _ (.slice (some ⟨g, 0, none⟩) k k) (.int .i64 xa) (fun _ _ => Below.refl _ _) rfl rfl (by kernel_rfl) (by kernel_rfl) rfl rfl (fun w1 => idx_t2 _ _ _ _ HFT.out.2.2.2 w1) ?_
                            refine chain_idx (.pointer (some ⟨g, xa * 2 + c, none⟩)) _ _ _ (.pointer (some ⟨g, xa * 2, none⟩)) (.int .i64 c) (fun _ _ => Below.refl _ _) rfl rfl (by kernel_rfl) (by kernel_rfl) rfl rfl (fun w1 => idx_a2 _ _ _ HDD.out w1) ?_
                            refine chain_load (.int .i64 e2) _ _ _ (fun _ _ => Below.refl _ _) rfl rfl (by kernel_rfl) (by kernel_rfl) rfl (fun w1 hC => load_i64 (HE2.out w1 (HOWD.out w1 hC))) ?_
                            refine chain_bin (.bool false) _ _ _ _ _ (.int .i64 ((e1 + 1 : Nat) : Int)) (.int .i64 e2) (fun _ _ => Below.refl _ _) rfl rfl (by kernel_rfl) (by kernel_rfl) rfl rfl (fun w1 => lss_n _ _ _ _ _ _ HLE.out w1) ?_
                            refine chain_pick (.bool false) _ _ _ true (fun _ _ => Below.refl _ _) rfl rfl (by kernel_rfl) (by kernel_rfl) rfl rfl ?_
                            refine chain_end (by rfl) ?_
                            intro xs w6 hCw6 hrew6
                            simp only [layE, List.foldr_cons, List.foldr_nil, List.set_cons_succ, List.set_cons_zero]
                            have HY := Lib.hid (HOWD.out w6 hCw6)
                            clear hCw6 hrew6 HOWD
                            have HT := Lib.hid (HT.out.below HY.out)
                            have HT6 := Lib.hid (HT6.out.below HY.out)
                            clear HY
                            go_wp2_with fail
                            go_roundg (2 - (c + 1))
                            case measure => omega
                            case rel => exact ⟨c + 1, D', ag, by omega, by simp, rfl, HPN, HSN, HT, HT6⟩
                        · have HD2 : Hid (false = decide (c < 2)) := by simp [Hid, hd2]
                          have HPN := Lib.hid (HNO.out (fun h => hd2 h.1))
                          clear HYE HNO HE2 hd2 hku
                          refine wp_region_old 18 120 (by kernel_rfl) (by kernel_rfl) (by rfl) ?_
                          simp only [List.take_succ_cons, List.take_zero, List.drop_succ_cons, List.drop_zero, List.drop_nil]
                          refine chain_move (.int .i64 c) _ (fun _ _ => Below.refl _ _) rfl rfl (by kernel_rfl) (by kernel_rfl) rfl ?_
                          refine chain_bin (.bool false) _ _ _ _ _ (.int .i64 c) (.int .i64 2) (fun _ _ => Below.refl _ _) rfl rfl (by kernel_rfl) (by kernel_rfl) rfl rfl (fun w1 => lss_n _ _ _ _ 2 _ HD2.out w1) ?_
                          refine chain_move (.bool false) _ (fun _ _ => Below.refl _ _) rfl rfl (by kernel_rfl) (by kernel_rfl) rfl ?_
                          refine chain_skip rfl (by kernel_rfl) ?_
                          refine chain_skip rfl (by kernel_rfl) ?_
                          refine chain_skip rfl (by kernel_rfl) ?_
                          refine chain_skip rfl (by kernel_rfl) ?_
                          refine chain_skip rfl (by kernel_rfl) ?_
                          refine chain_skip rfl (by kernel_rfl) ?_
                          refine chain_skip rfl (by kernel_rfl) ?_
                          refine chain_skip rfl (by kernel_rfl) ?_
                          refine chain_skip rfl (by kernel_rfl) ?_
                          refine chain_skip rfl (by kernel_rfl) ?_
                          refine chain_skip rfl (by kernel_rfl) ?_
                          refine chain_skip rfl (by kernel_rfl) ?_
                          refine chain_skip rfl (by kernel_rfl) ?_
                          refine chain_skip rfl (by kernel_rfl) ?_
                          refine chain_pick (.bool false) _ _ _ false (fun _ _ => Below.refl _ _) rfl rfl (by kernel_rfl) (by kernel_rfl) rfl rfl ?_
                          refine chain_end (by rfl) ?_
                          intro xs w6 hCw6 hrew6
                          simp only [layE, List.foldr_cons, List.foldr_nil, List.set_cons_succ, List.set_cons_zero]
                          have HY := Lib.hid (HOWD.out w6 hCw6)
                          clear hCw6 hrew6 HOWD
                          have HT := Lib.hid (HT.out.below HY.out)
                          have HT6 := Lib.hid (HT6.out.below HY.out)
                          clear HY
                          go_wp2_with fail
                          go_roundg (2 - (c + 1))
                          case measure => omega
                          case rel => exact ⟨c + 1, D', ag, by omega, by simp, rfl, HPN, HSN, HT, HT6⟩
                      · have v1 : (zk == 1) = true := by rw [hz]; rfl
                        have HDC := Lib.hid hdc
                        clear hz hdc
                        go_upto_region 27 with (fail)
                        clear z2 v1
                        have hdi : (c : Int) + 1 = (d : Int) := by have := HDC.out; omega
                        have HOWD : Hid (∀ w1, (clOld wr.drew).C w1 → Below wr.heap.size wr w1) := fun w1 hC => old_end (Below.refl _ _) hC (Nat.le_refl _)
                        rewrite [hdi]
                        clear hdi
                        by_cases hd2 : d < 2
                        · have HD2 : Hid (true = decide (d < 2)) := by simp [Hid, hd2]
                          have HDD := Lib.hid hd2
                          replace HE2 := Lib.hid (HE2.out hd2)
                          by_cases hle : e1 + 1 < e2
                          · have HLE : Hid (true = decide (e1 + 1 < e2)) := by simp [Hid, hle]
                            obtain ⟨hp9, hs9⟩ := HYE.out hd2 hle
                            have HPN := Lib.hid hp9
                            have HSN2 := Lib.hid hs9
                            clear hp9 hs9 HYE HNO hle hd2 hku HDC
                            refine wp_region_old 18 120 (by kernel_rfl) (by kernel_rfl) (by rfl) ?_
                            simp only [List.take_succ_cons, List.take_zero, List.drop_succ_cons, List.drop_zero, List.drop_nil]
                            refine chain_move (.int .i64 d) _ (fun _ _ => Below.refl _ _) rfl rfl (by kernel_rfl) (by kernel_rfl) rfl ?_
                            refine chain_bin (.bool true) _ _ _ _ _ (.int .i64 d) (.int .i64 2) (fun _ _ => Below.refl _ _) rfl rfl (by kernel_rfl) (by kernel_rfl) rfl rfl (fun w1 => lss_n _ _ _ _ 2 _ HD2.out w1) ?_
                            refine chain_move (.bool true) _ (fun _ _ => Below.refl _ _) rfl rfl (by kernel_rfl) (by kernel_rfl) rfl ?_
                            refine chain_move (.slice (some ⟨g, 0, none⟩) k k) _ (fun _ _ => Below.refl _ _) rfl rfl (by kernel_rfl) (by kernel_rfl) rfl ?_
                            refine chain_move (.int .i64 xb) _ (fun _ _ => Below.refl _ _) rfl rfl (by kernel_rfl) (by kernel_rfl) rfl ?_
                            refine chain_move (.int .i64 c) _ (fun _ _ => Below.refl _ _) rfl rfl (by kernel_rfl) (by kernel_rfl) rfl ?_
                            refine chain_idx (.pointer (some ⟨g, xb * 2, none⟩)) _ _ _ (.slice (some ⟨g, 0, none⟩) k k) (.int .i64 xb) (fun _ _ => Below.refl _ _) rfl rfl (by kernel_rfl) (by kernel_rfl) rfl rfl (fun w1 => idx_t2 _ _ _ _ HFT.out.2.2.1 w1) ?_
                            refine chain_idx (.pointer (some ⟨g, xb * 2 + c, none⟩)) _ _ _ (.pointer (some ⟨g, xb * 2, none⟩)) (.int .i64 c) (fun _ _ => Below.refl _ _) rfl rfl (by kernel_rfl) (by kernel_rfl) rfl rfl (fun w1 => idx_a2 _ _ _ HC2.out w1) ?_
                            refine chain_load (.int .i64 e1) _ _ _ (fun _ _ => Below.refl _ _) rfl rfl (by kernel_rfl) (by kernel_rfl) rfl (fun w1 hC => load_i64 (HE1.out w1 (HOWD.out w1 hC))) ?_
                            refine chain_bin (.int .i64 ((e1 + 1 : Nat) : Int)) _ _ _ _ _ (.int .i64 e1) (.int .i64 1) (fun _ _ => Below.refl _ _) rfl rfl (by kernel_rfl) (by kernel_rfl) rfl rfl (fun w1 => add_1n _ _ _ _ HE5.out w1) ?_
                            refine chain_move (.slice (some ⟨g, 0, none⟩) k k) _ (fun _ _ => Below.refl _ _) rfl rfl (by kernel_rfl) (by kernel_rfl) rfl ?_
                            refine chain_move (.int .i64 xa) _ (fun _ _ => Below.refl _ _) rfl rfl (by kernel_rfl) (by kernel_rfl) rfl ?_
                            refine chain_move (.int .i64 d) _ (fun _ _ => Below.refl _ _) rfl rfl (by kernel_rfl) (by kernel_rfl) rfl ?_
                            refine chain_idx (.pointer (some ⟨g, xa * 2, none⟩)) _ _ _ (.slice (some ⟨g, 0, none⟩) k k) (.int .i64 xa) (fun _ _ => Below.refl _ _) rfl rfl (by kernel_rfl) (by kernel_rfl) rfl rfl (fun w1 => idx_t2 _ _ _ _ HFT.out.2.2.2 w1) ?_
                            refine chain_idx (.pointer (some ⟨g, xa * 2 + d, none⟩)) _ _ _ (.pointer (some ⟨g, xa * 2, none⟩)) (.int .i64 d) (fun _ _ => Below.refl _ _) rfl rfl (by kernel_rfl) (by kernel_rfl) rfl rfl (fun w1 => idx_a2 _ _ _ HDD.out w1) ?_
                            refine chain_load (.int .i64 e2) _ _ _ (fun _ _ => Below.refl _ _) rfl rfl (by kernel_rfl) (by kernel_rfl) rfl (fun w1 hC => load_i64 (HE2.out w1 (HOWD.out w1 hC))) ?_
                            refine chain_bin (.bool true) _ _ _ _ _ (.int .i64 ((e1 + 1 : Nat) : Int)) (.int .i64 e2) (fun _ _ => Below.refl _ _) rfl rfl (by kernel_rfl) (by kernel_rfl) rfl rfl (fun w1 => lss_n _ _ _ _ _ _ HLE.out w1) ?_
                            refine chain_pick (.bool true) _ _ _ true (fun _ _ => Below.refl _ _) rfl rfl (by kernel_rfl) (by kernel_rfl) rfl rfl ?_
                            refine chain_end (by rfl) ?_
                            intro xs w6 hCw6 hrew6
                            simp only [layE, List.foldr_cons, List.foldr_nil, List.set_cons_succ, List.set_cons_zero]
                            have HY := Lib.hid (HOWD.out w6 hCw6)
                            clear hCw6 hrew6 HOWD
                            have HT := Lib.hid (HT.out.below HY.out)
                            have HT6 := Lib.hid (HT6.out.below HY.out)
                            go_upto_region 28 with (fail)
                            have HOWD : Hid (∀ w1, (clOld w6.drew).C w1 → Below w6.heap.size w6 w1) := fun w1 hC => old_end (Below.refl _ _) hC (Nat.le_refl _)
                            refine wp_region_old 12 120 (by kernel_rfl) (by kernel_rfl) (by rfl) ?_
                            simp only [List.take_succ_cons, List.take_zero, List.drop_succ_cons, List.drop_zero, List.drop_nil]
                            refine chain_move (.slice (some ⟨g, 0, none⟩) k k) _ (fun _ _ => Below.refl _ _) rfl rfl (by kernel_rfl) (by kernel_rfl) rfl ?_
                            refine chain_move (.int .i64 xa) _ (fun _ _ => Below.refl _ _) rfl rfl (by kernel_rfl) (by kernel_rfl) rfl ?_
                            refine chain_move (.int .i64 d) _ (fun _ _ => Below.refl _ _) rfl rfl (by kernel_rfl) (by kernel_rfl) rfl ?_
                            refine chain_move (.slice (some ⟨g, 0, none⟩) k k) _ (fun _ _ => Below.refl _ _) rfl rfl (by kernel_rfl) (by kernel_rfl) rfl ?_
                            refine chain_move (.int .i64 xb) _ (fun _ _ => Below.refl _ _) rfl rfl (by kernel_rfl) (by kernel_rfl) rfl ?_
                            refine chain_move (.int .i64 c) _ (fun _ _ => Below.refl _ _) rfl rfl (by kernel_rfl) (by kernel_rfl) rfl ?_
                            refine chain_idx (.pointer (some ⟨g, xb * 2, none⟩)) _ _ _ (.slice (some ⟨g, 0, none⟩) k k) (.int .i64 xb) (fun _ _ => Below.refl _ _) rfl rfl (by kernel_rfl) (by kernel_rfl) rfl rfl (fun w1 => idx_t2 _ _ _ _ HFT.out.2.2.1 w1) ?_
                            refine chain_idx (.pointer (some ⟨g, xb * 2 + c, none⟩)) _ _ _ (.pointer (some ⟨g, xb * 2, none⟩)) (.int .i64 c) (fun _ _ => Below.refl _ _) rfl rfl (by kernel_rfl) (by kernel_rfl) rfl rfl (fun w1 => idx_a2 _ _ _ HC2.out w1) ?_
                            refine chain_load (.int .i64 e1) _ _ _ (fun _ _ => Below.refl _ _) rfl rfl (by kernel_rfl) (by kernel_rfl) rfl (fun w1 hC => load_i64 (HE1.out w1 (HY.out.trans ((HOWD.out w1 hC).mono HY.out.size)))) ?_
                            refine chain_bin (.int .i64 ((e1 + 1 : Nat) : Int)) _ _ _ _ _ (.int .i64 e1) (.int .i64 1) (fun _ _ => Below.refl _ _) rfl rfl (by kernel_rfl) (by kernel_rfl) rfl rfl (fun w1 => add_1n _ _ _ _ HE5.out w1) ?_
                            refine chain_idx (.pointer (some ⟨g, xa * 2, none⟩)) _ _ _ (.slice (some ⟨g, 0, none⟩) k k) (.int .i64 xa) (fun _ _ => Below.refl _ _) rfl rfl (by kernel_rfl) (by kernel_rfl) rfl rfl (fun w1 => idx_t2 _ _ _ _ HFT.out.2.2.2 w1) ?_
                            refine chain_idx (.pointer (some ⟨g, xa * 2 + d, none⟩)) _ _ _ (.pointer (some ⟨g, xa * 2, none⟩)) (.int .i64 d) (fun _ _ => Below.refl _ _) rfl rfl (by kernel_rfl) (by kernel_rfl) rfl rfl (fun w1 => idx_a2 _ _ _ HDD.out w1) ?_
                            refine chain_end (by rfl) ?_
                            intro xs w7 hCw7 hrew7
                            simp only [layE, List.foldr_cons, List.foldr_nil, List.set_cons_succ, List.set_cons_zero]
                            have HY2 := Lib.hid (HOWD.out w7 hCw7)
                            clear hCw7 hrew7 HOWD
                            have HT := Lib.hid (HT.out.below HY2.out)
                            have HT6 := Lib.hid (HT6.out.below HY2.out)
                            have d0 := HE2.out w7 (HY.out.trans (HY2.out.mono HY.out.size))
                            have f0 := HT.out.2.frozen (xa * 2 + d)
                            clear HY HY2 HE1 HE2
                            go_wp2_with fail
                            go_roundg (2 - (c + 1))
                            case measure => omega
                            case rel => exact ⟨c + 1, D'.set (xa * 2 + d) (e1 + 1), true, by omega, by simp, rfl, HPN, HSN2, HT.out.set_ HGB.out _ _, HT6.out.only ((Only.refl g _).set_ _ _) (by have := HG6.out; omega)⟩
                          · have HLE : Hid (false = decide (e1 + 1 < e2)) := by simp [Hid, hle]
                            have HPN := Lib.hid (HNO.out (fun h => hle h.2))
                            clear HYE HNO hle hd2 hku
                            refine wp_region_old 18 120 (by kernel_rfl) (by kernel_rfl) (by rfl) ?_
                            simp only [List.take_succ_cons, List.take_zero, List.drop_succ_cons, List.drop_zero, List.drop_nil]
                            refine chain_move (.int .i64 d) _ (fun _ _ => Below.refl _ _) rfl rfl (by kernel_rfl) (by kernel_rfl) rfl ?_
                            refine chain_bin (.bool true) _ _ _ _ _ (.int .i64 d) (.int .i64 2) (fun _ _ => Below.refl _ _) rfl rfl (by kernel_rfl) (by kernel_rfl) rfl rfl (fun w1 => lss_n _ _ _ _ 2 _ HD2.out w1) ?_
                            refine chain_move (.bool true) _ (fun _ _ => Below.refl _ _) rfl rfl (by kernel_rfl) (by kernel_rfl) rfl ?_
                            refine chain_move (.slice (some ⟨g, 0, none⟩) k k) _ (fun _ _ => Below.refl _ _) rfl rfl (by kernel_rfl) (by kernel_rfl) rfl ?_
                            refine chain_move (.int .i64 xb) _ (fun _ _ => Below.refl _ _) rfl rfl (by kernel_rfl) (by kernel_rfl) rfl ?_
                            refine chain_move (.int .i64 c) _ (fun _ _ => Below.refl _ _) rfl rfl (by kernel_rfl) (by kernel_rfl) rfl ?_
                            refine chain_idx (.pointer (some ⟨g, xb * 2, none⟩)) _ _ _ (.slice (some ⟨g, 0, none⟩) k k) (.int .i64 xb) (fun _ _ => Below.refl _ _) rfl rfl (by kernel_rfl) (by kernel_rfl) rfl rfl (fun w1 => idx_t2 _ _ _ _ HFT.out.2.2.1 w1) ?_
                            refine chain_idx (.pointer (some ⟨g, xb * 2 + c, none⟩)) _ _ _ (.pointer (some ⟨g, xb * 2, none⟩)) (.int .i64 c) (fun _ _ => Below.refl _ _) rfl rfl (by kernel_rfl) (by kernel_rfl) rfl rfl (fun w1 => idx_a2 _ _ _ HC2.out w1) ?_
                            refine chain_load (.int .i64 e1) _ _ _ (fun _ _ => Below.refl _ _) rfl rfl (by kernel_rfl) (by kernel_rfl) rfl (fun w1 hC => load_i64 (HE1.out w1 (HOWD.out w1 hC))) ?_
                            refine chain_bin (.int .i64 ((e1 + 1 : Nat) : Int)) _ _ _ _ _ (.int .i64 e1) (.int .i64 1) (fun _ _ => Below.refl _ _) rfl rfl (by kernel_rfl) (by kernel_rfl) rfl rfl (fun w1 => add_1n _ _ _ _ HE5.out w1) ?_
                            refine chain_move (.slice (some ⟨g, 0, none⟩) k k) _ (fun _ _ => Below.refl _ _) rfl rfl (by kernel_rfl) (by kernel_rfl) rfl ?_
                            refine chain_move (.int .i64 xa) _ (fun _ _ => Below.refl _ _) rfl rfl (by kernel_rfl) (by kernel_rfl) rfl ?_
                            refine chain_move (.int .i64 d) _ (fun _ _ => Below.refl _ _) rfl rfl (by kernel_rfl) (by kernel_rfl) rfl ?_
                            refine chain_idx (.pointer (some ⟨g, xa * 2, none⟩)) _ _ _ (.slice (some ⟨g, 0, none⟩) k k) (.int .i64 xa) (fun _ _ => Below.refl _ _) rfl rfl (by kernel_rfl) (by kernel_rfl) rfl rfl (fun w1 => idx_t2 _ _ _ _ HFT.out.2.2.2 w1) ?_
                            refine chain_idx (.pointer (some ⟨g, xa * 2 + d, none⟩)) _ _ _ (.pointer (some ⟨g, xa * 2, none⟩)) (.int .i64 d) (fun _ _ => Below.refl _ _) rfl rfl (by kernel_rfl) (by kernel_rfl) rfl rfl (fun w1 => idx_a2 _ _ _ HDD.out w1) ?_
                            refine chain_load (.int .i64 e2) _ _ _ (fun _ _ => Below.refl _ _) rfl rfl (by kernel_rfl) (by kernel_rfl) rfl (fun w1 hC => load_i64 (HE2.out w1 (HOWD.out w1 hC))) ?_
                            refine chain_bin (.bool false) _ _ _ _ _ (.int .i64 ((e1 + 1 : Nat) : Int)) (.int .i64 e2) (fun _ _ => Below.refl _ _) rfl rfl (by kernel_rfl) (by kernel_rfl) rfl rfl (fun w1 => lss_n _ _ _ _ _ _ HLE.out w1) ?_
                            refine chain_pick (.bool false) _ _ _ true (fun _ _ => Below.refl _ _) rfl rfl (by kernel_rfl) (by kernel_rfl) rfl rfl ?_
                            refine chain_end (by rfl) ?_
                            intro xs w6 hCw6 hrew6
                            simp only [layE, List.foldr_cons, List.foldr_nil, List.set_cons_succ, List.set_cons_zero]
                            have HY := Lib.hid (HOWD.out w6 hCw6)
                            clear hCw6 hrew6 HOWD
                            have HT := Lib.hid (HT.out.below HY.out)
                            have HT6 := Lib.hid (HT6.out.below HY.out)
                            clear HY
                            go_wp2_with fail
                            go_roundg (2 - (c + 1))
                            case measure => omega
                            case rel => exact ⟨c + 1, D', ag, by omega, by simp, rfl, HPN, HSN, HT, HT6⟩
                        · have HD2 : Hid (false = decide (d < 2)) := by simp [Hid, hd2]
                          have HPN := Lib.hid (HNO.out (fun h => hd2 h.1))
                          clear HYE HNO HE2 hd2 hku
                          refine wp_region_old 18 120 (by kernel_rfl) (by kernel_rfl) (by rfl) ?_
                          simp only [List.take_succ_cons, List.take_zero, List.drop_succ_cons, List.drop_zero, List.drop_nil]
                          refine chain_move (.int .i64 d) _ (fun _ _ => Below.refl _ _) rfl rfl (by kernel_rfl) (by kernel_rfl) rfl ?_
                          refine chain_bin (.bool false) _ _ _ _ _ (.int .i64 d) (.int .i64 2) (fun _ _ => Below.refl _ _) rfl rfl (by kernel_rfl) (by kernel_rfl) rfl rfl (fun w1 => lss_n _ _ _ _ 2 _ HD2.out w1) ?_
                          refine chain_move (.bool false) _ (fun _ _ => Below.refl _ _) rfl rfl (by kernel_rfl) (by kernel_rfl) rfl ?_
                          refine chain_skip rfl (by kernel_rfl) ?_
                          refine chain_skip rfl (by kernel_rfl) ?_
                          refine chain_skip rfl (by kernel_rfl) ?_
                          refine chain_skip rfl (by kernel_rfl) ?_
                          refine chain_skip rfl (by kernel_rfl) ?_
                          refine chain_skip rfl (by kernel_rfl) ?_
                          refine chain_skip rfl (by kernel_rfl) ?_
                          refine chain_skip rfl (by kernel_rfl) ?_
                          refine chain_skip rfl (by kernel_rfl) ?_
                          refine chain_skip rfl (by kernel_rfl) ?_
                          refine chain_skip rfl (by kernel_rfl) ?_
                          refine chain_skip rfl (by kernel_rfl) ?_
                          refine chain_skip rfl (by kernel_rfl) ?_
                          refine chain_skip rfl (by kernel_rfl) ?_
                          refine chain_pick (.bool false) _ _ _ false (fun _ _ => Below.refl _ _) rfl rfl (by kernel_rfl) (by kernel_rfl) rfl rfl ?_
                          refine chain_end (by rfl) ?_
                          intro xs w6 hCw6 hrew6
                          simp only [layE, List.foldr_cons, List.foldr_nil, List.set_cons_succ, List.set_cons_zero]
                          have HY := Lib.hid (HOWD.out w6 hCw6)
                          clear hCw6 hrew6 HOWD
                          have HT := Lib.hid (HT.out.below HY.out)
                          have HT6 := Lib.hid (HT6.out.below HY.out)
                          clear HY
                          go_wp2_with fail
                          go_roundg (2 - (c + 1))
                          case measure => omega
                          case rel => exact ⟨c + 1, D', ag, by omega, by simp, rfl, HPN, HSN, HT, HT6⟩
                    · have hc3 : c = 2 := by omega
                      subst hc3
                      have HPN : Hid (Pas ts D (4 * i + 2 * 2) D' ag) := HP.out.cast (by omega)
                      have hk2 := hku.out (by omega)
                      clear HP
                      go_wp2_with fail
                      go_roundg (2 - (1 + 1))
                      case measure => exact hk2
                      case rel => exact ⟨2, D', ag, by omega, by simp, rfl, HPN, HSN, HT, HT6⟩
                · have HPN : Hid (Pas ts D (4 * (i + 1)) D' ag) := HP.out.cast (by omega)
                  clear HP hku
                  go_wp2_with fail
                  go_roundg (m - (i + 1))
                  case measure => omega
                  case rel => exact ⟨i + 1, D', ag, by omega, by simp, rfl, HPN, HSN, HT⟩
            · have e : i = m := by omega
              rw [e] at HP
              clear e
              rcases HP.out with ⟨rfl, rfl, h⟩ | ⟨rfl, h⟩
              · have HAGN : Hid (Rnd ts m false 0 D') := .inr ⟨rfl, rfl, h⟩
                clear h HP
                go_wp2_with fail
                have hgk := HGK.out
                go_roundg 0
                case measure => omega
                case rel => exact ⟨D', false, rfl, HAGN, HSN, HT⟩
              · have HAGN : Hid (Rnd ts m true (D'.sum + 1) D') := .inl ⟨rfl, rfl⟩
                have HLS := Lib.hid h
                clear h HP
                go_wp2_with fail
                have hgk := HGK.out
                have hls := HLS.out
                go_roundg (D'.sum + 1)
                case measure => omega
                case rel => exact ⟨D', true, rfl, HAGN, HSN, HT⟩
end Go.Proofs.YtjcafjffmiknmaaGreat
