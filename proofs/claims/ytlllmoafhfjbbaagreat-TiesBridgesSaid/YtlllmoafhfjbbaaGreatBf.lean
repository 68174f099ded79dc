/- Layer 4: leftOut. -/
import Derived.Test.YtlllmoafhfjbbaaGreatBe
import Derived.Test.YtlllmoafhfjbbaaGreatEv
namespace Go.Proofs.YtlllmoafhfjbbaaGreat
set_option linter.unusedSimpArgs false
set_option linter.unusedVariables false
open Go Go.RowKit

def twW (x y : Value) : Word := fun u w => ∃ sb, u = .slice (some ⟨sb, 0, none⟩) 2 2 ∧ Blk w sb [x, y] 22
theorem twW_lasts {w0 : World} (x y : Value) : lasts (clOld w0) (twW x y) := fun v w w' _ hR ⟨sb, hv, h⟩ => ⟨sb, hv, h.below hR⟩
theorem twW_new {w0 w : World} {x y : Value} {ρ : Operand → Value} {o : Oper} (h : (execOp ρ o).run Tryz.prog w = .ok (.value (.slice (some ⟨w.heap.size, 0, none⟩) 2 2)) (w.alloc (.cells #[x, y] 22))) (hC : (clOld w0).C w) :
    ∃ u w', (execOp ρ o).run Tryz.prog w = .ok (.value u) w' ∧ (clOld w0).R w w' ∧ twW x y u w' :=
  ⟨_, _, h, (Below.refl _ _).alloc (Nat.le_refl _) _, _, rfl, Blk.new w [x, y] 22⟩
theorem add_one (t : TypeId) (x y : Operand) (i : Nat) (h : i ≤ 100000) (w : World) : (do eqGuard .add t x y (.int .i64 (i : Int)) (.int .i64 1); binOp .add t (.int .i64 (i : Int)) (.int .i64 1) : Sem Value).run Tryz.prog w = .ok (.int .i64 ((i : Int) + 1)) w := by
  have hw : IntKind.i64.wrap ((i : Int) + 1) = (i : Int) + 1 := by simp [IntKind.wrap, IntKind.bits, IntKind.signed]; omega
  simp [go_sem, hw]
set_option maxRecDepth 100000 in
set_option maxHeartbeats 4000000 in
theorem leftOut_any (n : Int) (a : Option Addr) (cap i : Nat) (ts : List TieD) (w : World) (hi : i < ts.length) (hcap : ts.length ≤ cap) (hl : ts.length ≤ 1000) (hs : TiesAt w a ts) :
    Calls Tryz.prog 33 #[gV n a ts.length cap, .int .i64 (i : Int)] w fun e w' => ∃ a' c', e = .returned (gV n a' (ts.eraseIdx i).length c') ∧ TiesAt w' a' (ts.eraseIdx i) ∧ Below w.heap.size w w' := by
  have HS := Lib.hid hs
  obtain ⟨b, oo, rfl, hlb, _⟩ := hs.at hi
  obtain ⟨m, hm⟩ : ∃ m, m = ts.length := ⟨_, rfl⟩
  rw [← hm] at hi hcap hl ⊢
  obtain ⟨a1, k1, hr1, ht1⟩ := slice_take b oo cap m i hi hcap
  obtain ⟨a2, k2, hr2, ht2⟩ := slice_drop b oo cap m i hi hcap
  have HR1 := Lib.hid hr1
  have HR2 := Lib.hid hr2
  have HCC : Hid (∀ W sb, Below w.heap.size w W → Blk W sb [.slice a1 i k1, .slice a2 (m - (i + 1)) k2] 22 → Calls Tryz.prog 58 #[.slice (some ⟨sb, 0, none⟩) 2 2] W fun e w' => ∃ v, e = .returned v ∧ w'.ownsRow W.heap.size 33 5 v (ts.eraseIdx i).length (tvL (ts.eraseIdx i)) ∧ Below W.heap.size W w') := fun W sb hb hk => by
    have l1 : (ts.take i).length = i := by rw [List.length_take]; omega
    have l2 : (ts.drop (i + 1)).length = m - (i + 1) := by rw [List.length_drop, hm]
    have h := concatT_any sb a1 a2 k1 k2 (ts.take i) (ts.drop (i + 1)) W (by omega) (by omega) (ht1 W ts hm.symm (HS.out.below hb)) (ht2 W ts hm.symm (HS.out.below hb)) (by rw [l1, l2]; exact hk)
    have e : ts.eraseIdx i = ts.take i ++ ts.drop (i + 1) := List.eraseIdx_eq_take_drop_succ ts i
    rw [← List.length_append, ← tvL_append, ← e] at h
    exact h
  have HN0 : Hid (Blk ((w.alloc (.cells #[.int .i64 n, .slice (some ⟨b, oo, none⟩) m cap] 24)).alloc (.cells #[.int .i64 0, .slice none 0 0] 24)) w.heap.size [.int .i64 n, .slice (some ⟨b, oo, none⟩) m cap] 24 ∧ Blk ((w.alloc (.cells #[.int .i64 n, .slice (some ⟨b, oo, none⟩) m cap] 24)).alloc (.cells #[.int .i64 0, .slice none 0 0] 24)) (w.heap.size + 1) [.int .i64 0, .slice none 0 0] 24 ∧ Below w.heap.size w ((w.alloc (.cells #[.int .i64 n, .slice (some ⟨b, oo, none⟩) m cap] 24)).alloc (.cells #[.int .i64 0, .slice none 0 0] 24))) := by
    have b1 := Blk.new w [.int .i64 n, .slice (some ⟨b, oo, none⟩) m cap] 24
    have b2 := Blk.new (w.alloc (.cells #[.int .i64 n, .slice (some ⟨b, oo, none⟩) m cap] 24)) [.int .i64 0, .slice none 0 0] 24
    exact ⟨b1.block (Below.heap_alloc _ _ _ b1.lt), by simpa using b2, ((Below.refl _ _).alloc (Nat.le_refl _) _).alloc (by simp) _⟩
  obtain ⟨F, hF⟩ : ∃ F, F = ts.eraseIdx i := ⟨_, rfl⟩
  rw [← hF] at HCC ⊢
  have HI : Hid (i ≤ 100000) := by rw [Hid]; omega
  clear hF hm hr1 hr2 ht1 ht2 hi hcap hl hs hlb
  go_enter Tryz.func33, Tryz.ntmps33
  simp only [gV]
  go_upto_region 1 with (fail)
  refine named (fun V => Hid (Blk V w.heap.size [.int .i64 n, .slice (some ⟨b, oo, none⟩) m cap] 24 ∧ Blk V (w.heap.size + 1) [.int .i64 0, .slice none 0 0] 24 ∧ Below w.heap.size w V)) HN0 ?_
  clear HN0
  rintro V0 HN
  generalize hb1 : w.heap.size = b1 at HN ⊢
  generalize hb4 : b1 + 1 = b4 at HN ⊢
  have HBB : Hid (w.heap.size = b1 ∧ b1 < b4) := ⟨hb1, by omega⟩
  clear hb1 hb4
  have HX : Hid (∀ W, (clOld V0.drew).C W → Blk W b1 [.int .i64 n, .slice (some ⟨b, oo, none⟩) m cap] 24 ∧ Blk W b4 [.int .i64 0, .slice none 0 0] 24 ∧ Below w.heap.size w W) := fun W hC => by
    have hb : Below V0.heap.size V0 W := old_end (Below.refl _ _) hC (Nat.le_refl _)
    have h3 : Below w.heap.size w V0 := by rw [HBB.out.1]; exact HN.out.2.2
    exact ⟨HN.out.1.below hb, HN.out.2.1.below hb, h3.trans (hb.mono h3.size)⟩
  refine wp_region_old 13 19 (by kernel_rfl) (by kernel_rfl) (by rfl) ?_
  simp only [List.take_succ_cons, List.take_zero, List.drop_succ_cons, List.drop_zero, List.drop_nil]
  refine chain_val (.pointer (some ⟨b1, 0, none⟩)) (fun _ _ => Below.refl _ _) rfl (by intro cs b h; cases h) (by kernel_rfl) (by kernel_rfl) (fun w1 _ => by simp [execOp, evE, lk_cons, lk_nil, slotL, go_sem]) ?_
  refine chain_load (.int .i64 n) _ _ _ (fun _ _ => Below.refl _ _) rfl rfl (by kernel_rfl) (by kernel_rfl) rfl (fun w1 hC => load_i64 ((HX.out w1 hC).1.cell rfl)) ?_
  refine chain_val (.pointer (some ⟨b1, 1, none⟩)) (fun _ _ => Below.refl _ _) rfl (by intro cs b h; cases h) (by kernel_rfl) (by kernel_rfl) (fun w1 _ => by simp [execOp, evE, lk_cons, lk_nil, slotL, go_sem]) ?_
  refine chain_load (.slice (some ⟨b, oo, none⟩) m cap) _ _ _ (fun _ _ => Below.refl _ _) rfl rfl (by kernel_rfl) (by kernel_rfl) rfl (fun w1 hC => load_slq ((HX.out w1 hC).1.cell rfl)) ?_
  refine chain_move (.int .i64 (i : Int)) _ (fun _ _ => Below.refl _ _) rfl rfl (by kernel_rfl) (by kernel_rfl) rfl ?_
  refine chain_val (.slice a1 i k1) (fun _ _ => Below.refl _ _) rfl (by intro cs b h; cases h) (by kernel_rfl) (by kernel_rfl) (fun w1 _ => by simp [execOp, evE, lk_cons, lk_nil, slotL, Sem.run_bind, Result.andThen, HR1.out]) ?_
  refine chain_val (.pointer (some ⟨b1, 1, none⟩)) (fun _ _ => Below.refl _ _) rfl (by intro cs b h; cases h) (by kernel_rfl) (by kernel_rfl) (fun w1 _ => by simp [execOp, evE, lk_cons, lk_nil, slotL, go_sem]) ?_
  refine chain_load (.slice (some ⟨b, oo, none⟩) m cap) _ _ _ (fun _ _ => Below.refl _ _) rfl rfl (by kernel_rfl) (by kernel_rfl) rfl (fun w1 hC => load_slq ((HX.out w1 hC).1.cell rfl)) ?_
  refine chain_move (.int .i64 (i : Int)) _ (fun _ _ => Below.refl _ _) rfl rfl (by kernel_rfl) (by kernel_rfl) rfl ?_
  refine chain_bin (.int .i64 ((i : Int) + 1)) _ _ _ _ _ (.int .i64 (i : Int)) (.int .i64 1) (fun _ _ => Below.refl _ _) rfl rfl (by kernel_rfl) (by kernel_rfl) rfl rfl (fun w1 => add_one _ _ _ i HI.out w1) ?_
  refine chain_val (.slice a2 (m - (i + 1)) k2) (fun _ _ => Below.refl _ _) rfl (by intro cs b h; cases h) (by kernel_rfl) (by kernel_rfl) (fun w1 _ => by simp [execOp, evE, lk_cons, lk_nil, slotL, Sem.run_bind, Result.andThen, HR2.out]) ?_
  refine chain_new (twW (.slice a1 i k1) (.slice a2 (m - (i + 1)) k2)) (twW_lasts _ _) rfl (by intro cs b h; cases h) (by kernel_rfl) (by kernel_rfl) (fun w1 hC => twW_new (by simp [execOp, evE, lk_cons, lk_nil, go_sem, Instr.buildSlice]) hC) ?_
  refine chain_call_use_re (ownW w.heap.size F.length (tvL F)) (ownW_lasts _ _ _) 16 _ 58 (fun x => [x]) _ _ (enters_of Tryz.func58 (by kernel_rfl) rfl) rfl rfl rfl (by kernel_rfl) rfl rfl (fun _ => rfl) rfl (fun _ => rfl) (fun x w1 hC ⟨sb, hx, hk⟩ => by subst hx; exact (HCC.out w1 sb (HX.out w1 hC).2.2 hk).mono fun e w' ⟨v, he, ho, hb⟩ => ⟨_, he, hb, own_mono ho (HX.out w1 hC).2.2.size⟩) ?_
  refine chain_end (by rfl) ?_
  intro xs w6 hCw6 hrew6
  simp only [layE, List.foldr_cons, List.foldr_nil, List.set_cons_succ, List.set_cons_zero]
  have ho : w6.ownsRow w.heap.size 33 5 (xs 17) F.length (tvL F) := hrew6 17 _ rfl
  obtain ⟨fa, fc, hx⟩ := own_slice ho
  rw [hx] at ho
  simp only [hx]
  have HO := Lib.hid ho
  have HY := Lib.hid (HX.out w6 hCw6)
  clear hx ho hrew6 hCw6 HX HCC HR1 HR2
  have d0 := HY.out.2.1.cell (i := 0) rfl
  have d1 := HY.out.2.1.cell (i := 1) rfl
  have f0 := HY.out.2.1.frozen 0
  have f1 := HY.out.2.1.frozen 1
  go_wp2_with fail
  refine named (fun V => Blk V b4 [.int .i64 n, .slice fa F.length fc] 24 ∧ V.ownsRow w.heap.size 33 5 (.slice fa F.length fc) F.length (tvL F) ∧ Below w.heap.size w V) ?_ ?_
  · have o1 : Only b4 w6 ((w6.setCell ⟨b4, 0, none⟩ (.int .i64 n)).setCell ⟨b4, 1, none⟩ (.slice fa F.length fc)) := ((Only.refl _ w6).set_ 0 _).set_ 1 _
    have hq : w.heap.size ≤ b4 := by have := HBB.out; omega
    exact ⟨(HY.out.2.1.set_ 0 _).set_ 1 _, own_only HO.out HY.out.2.1 o1, (HY.out.2.2.setCell hq _).setCell hq _⟩
  rintro V ⟨V1, V2, V3⟩
  have e0 := V1.cell (i := 0) rfl
  have e1 := V1.cell (i := 1) rfl
  refine bodyPost_ret (v := .agg #[.int .i64 n, .slice fa F.length fc]) (by simp [results, Tryz.results33, go_sem, e0, e1]) rfl ?_
  obtain ⟨a8, c8, he8, _, hT⟩ := own_tiesN V2
  injection he8 with h1 h2 h3
  subst h1
  exact ⟨fa, fc, rfl, hT.1, V3⟩
end Go.Proofs.YtlllmoafhfjbbaaGreat
