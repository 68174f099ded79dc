/- Layer 9: the specification's sum. -/
import Derived.Test.YtlkehdlhlpbomaaJc
import Derived.Test.YtlkehdlhlpbomaaJo
import Derived.Deep.Cut
namespace Go.Proofs.Ytlkehdlhlpbomaa
set_option linter.unusedSimpArgs false
set_option linter.unusedVariables false
open Go Go.RowKit

attribute [local go_sem] conv4h
theorem ba_append (a b : ByteArray) : (a ++ b).data.toList = a.data.toList ++ b.data.toList := by simp
theorem mixL_app (h : Int) (a b : List UInt8) : mixL (mixL h a) b = mixL h (a ++ b) := by unfold mixL; rw [List.foldl_append]
/-- A new slice of bytes. -/
def u8_w (xs : List Int) : Word := fun v w => ∃ b, v = .slice (some ⟨b, 0, none⟩) xs.length xs.length ∧ b < w.heap.size ∧ ∀ i, i < xs.length → w.cell? ⟨b, 0 + i, none⟩ = some (.int .u8 (xs.getD i 0))
theorem u8_lasts {w0 : World} (xs : List Int) : lasts (clOld w0) (u8_w xs) := fun v w w' _ hR ⟨b, hv, hb, h⟩ => ⟨b, hv, Nat.lt_of_lt_of_le hb hR.size, fun i hi => by rw [hR.cell (by exact hb)]; exact h i hi⟩
theorem u8_new {w0 w : World} {xs : List Int} {ρ : Operand → Value} {o : Oper} (h : (execOp ρ o).run Try.prog w = .ok (.value (.slice (some ⟨w.heap.size, 0, none⟩) xs.length xs.length)) (w.alloc (.cells (xs.map (Value.int .u8)).toArray 5))) (hC : (clOld w0).C w) :
    ∃ u w', (execOp ρ o).run Try.prog w = .ok (.value u) w' ∧ (clOld w0).R w w' ∧ u8_w xs u w' :=
  ⟨_, _, h, (Below.refl _ _).alloc (Nat.le_refl _) _, _, rfl, by simp, fun i hi => by
    rw [Nat.zero_add, World.cell?_alloc_new]
    simp [List.getD, List.getElem?_eq_getElem hi]⟩
theorem u8_conv {xs : List Int} {x : Value} {w : World} (h : u8_w xs x w) : (convert 39 9 x).run Try.prog w = .ok (.string (strOfNums xs)) w := by
  obtain ⟨b, rfl, hb, hc⟩ := h
  exact run_convert_bytes_arg w 39 5 Try.underlying39 Try.underlying5 b 0 xs.length xs.length xs rfl hc _ Try.underlying9
theorem idx_ent (b o n cap k : Nat) (h : k < n) (w : World) : (Instr.indexAt 24 (.slice (some ⟨b, o, none⟩) n cap) (.int .i64 k)).run Try.prog w = .ok (.pointer (some ⟨b, o + k * 3, none⟩)) w := by
  simp [go_sem, Instr.indexAt, h]
theorem load_int {w : World} {b o : Nat} {a : Int} (h : w.cell? ⟨b, o, none⟩ = some (.int .i64 a)) : (Instr.loadAt 3 (.pointer (some ⟨b, o, none⟩))).run Try.prog w = .ok (.int .i64 a) w := by
  simp [go_sem, Instr.loadAt, h]
theorem load_str {w : World} {b o : Nat} {a : ByteArray} (h : w.cell? ⟨b, o, none⟩ = some (.string a)) : (Instr.loadAt 9 (.pointer (some ⟨b, o, none⟩))).run Try.prog w = .ok (.string a) w := by
  simp [go_sem, Instr.loadAt, h]
set_option maxRecDepth 100000 in
set_option maxHeartbeats 1000000 in
theorem rsum_any (a : Option Addr) (cap : Nat) (ls : List Itm) (w : World) (hls : ∀ e ∈ ls, e.2.2.size ≤ 2500) (hl : ls.length ≤ 1000) (hs : EntsAt w a ls) :
    Calls Try.prog 18 #[.slice a ls.length cap] w fun e w' => e = .returned (.int .u64 (sumL ls)) ∧ Below w.heap.size w w' := by
  have HLS := Lib.hid hls
  have HS := Lib.hid hs
  obtain ⟨n, hn⟩ : ∃ n, n = ls.length := ⟨_, rfl⟩
  rw [← hn] at hl ⊢
  have HN := Lib.hid hn
  clear hls hs hn
  go_enter Try.func18, Try.ntmps18
  go_wp2_with fail
  go_loopw [3, 4] (fun th ti wr => ∃ k : Nat, k ≤ n ∧ ti = .int .i64 k ∧ th = .int .u64 (sumL (ls.take k)) ∧ Hid (Below w.heap.size w wr)) (fun _ ti _ => n - (intOf ti).toNat)
  case atStart => exact ⟨0, by omega, rfl, rfl, Below.refl _ _⟩
  case round =>
    obtain ⟨k, hk, rfl, rfl, HB⟩ := hrel
    obtain ⟨g, hg⟩ : ∃ g, g = sumL (ls.take k) := ⟨_, rfl⟩
    rw [← hg]
    by_cases hlt : k < n
    · have hkl : k < ls.length := by rw [← HN.out]; exact hlt
      have HSZ := Lib.hid (HLS.out _ (List.getElem_mem hkl))
      have HST : Hid (sumL (ls.take (k + 1)) = entS g ls[k]) := by
        rw [Hid, hg, sumL_step _ _ hkl]
      obtain ⟨lb, lo, rfl, hlb, c0, c1, c2⟩ := (HS.out.below HB.out).at hkl
      obtain ⟨x, hx⟩ : ∃ x, x = ls[k] := ⟨_, rfl⟩
      rw [← hx] at HSZ HST c0 c1 c2
      obtain ⟨eo, en, es⟩ := x
      clear hg hx hkl
      simp only at c0 c1 c2
      have hsz : es.size ≤ 2500 := HSZ.out
      have q1 : ∀ x : Int, IntKind.u8.wrap x = x % 256 := fun x => by simp [IntKind.wrap, IntKind.bits, IntKind.signed]
      have q2 : (es.size : Int).tmod 256 = (es.size : Int) % 256 := Int.tmod_eq_emod_of_nonneg (by omega)
      have q3 : IntKind.i64.wrap ((es.size : Int) / 256) = (es.size : Int) / 256 := IntWalk.i64_in _ (by omega)
      have q4 : (hdrB eo en es.size).size + es.size ≤ 9223372036854775807 := by unfold hdrB; rw [strOfNums_size]; simp; omega
      have q5 : (hdrB eo en es.size).data.toList.length = 4 := by unfold hdrB; rw [strOfNums_data]; rfl
      have q6 : es.data.toList.length = es.size := by rw [Array.length_toList]; rfl
      have HC : Hid (∀ W, Old wr.drew W → W.cell? ⟨lb, lo + k * 3, none⟩ = some (.int .i64 eo) ∧ W.cell? ⟨lb, lo + k * 3 + 1, none⟩ = some (.int .i64 en) ∧ W.cell? ⟨lb, lo + k * 3 + 2, none⟩ = some (.string es)) := fun W h => ⟨by rw [Below.cell h (by exact hlb)]; exact c0, by rw [Below.cell h (by exact hlb)]; exact c1, by rw [Below.cell h (by exact hlb)]; exact c2⟩
      go_upto_region 6 with (fail)
      refine wp_region_old 27 60 (by kernel_rfl) (by kernel_rfl) (by rfl) ?_
      simp only [List.take_succ_cons, List.take_zero, List.drop_succ_cons, List.drop_zero, List.drop_nil]
      refine chain_move (.slice (some ⟨lb, lo, none⟩) n cap) _ (fun _ _ => Below.refl _ _) rfl rfl (by kernel_rfl) (by kernel_rfl) rfl ?_
      refine chain_move (.int .i64 k) _ (fun _ _ => Below.refl _ _) rfl rfl (by kernel_rfl) (by kernel_rfl) rfl ?_
      refine chain_idx (.pointer (some ⟨lb, lo + k * 3, none⟩)) _ _ _ (.slice (some ⟨lb, lo, none⟩) n cap) (.int .i64 k) (fun _ _ => Below.refl _ _) rfl rfl (by kernel_rfl) (by kernel_rfl) rfl rfl (fun w1 => idx_ent _ _ _ _ _ hlt w1) ?_
      refine chain_val (.pointer (some ⟨lb, lo + k * 3, none⟩)) (fun _ _ => Below.refl _ _) rfl (by intro cs b h; cases h) (by kernel_rfl) (by kernel_rfl) (fun w1 _ => by simp [execOp, evE, lk_cons, go_sem]) ?_
      refine chain_load (.int .i64 eo) _ _ _ (fun _ _ => Below.refl _ _) rfl rfl (by kernel_rfl) (by kernel_rfl) rfl (fun w1 hC => load_int (HC.out _ hC).1) ?_
      refine chain_val (.int .u8 (eo % 256)) (fun _ _ => Below.refl _ _) rfl (by intro cs b h; cases h) (by kernel_rfl) (by kernel_rfl) (fun w1 _ => by simp [execOp, evE, lk_cons, go_sem, q1]) ?_
      refine chain_move (.slice (some ⟨lb, lo, none⟩) n cap) _ (fun _ _ => Below.refl _ _) rfl rfl (by kernel_rfl) (by kernel_rfl) rfl ?_
      refine chain_move (.int .i64 k) _ (fun _ _ => Below.refl _ _) rfl rfl (by kernel_rfl) (by kernel_rfl) rfl ?_
      refine chain_idx (.pointer (some ⟨lb, lo + k * 3, none⟩)) _ _ _ (.slice (some ⟨lb, lo, none⟩) n cap) (.int .i64 k) (fun _ _ => Below.refl _ _) rfl rfl (by kernel_rfl) (by kernel_rfl) rfl rfl (fun w1 => idx_ent _ _ _ _ _ hlt w1) ?_
      refine chain_val (.pointer (some ⟨lb, lo + k * 3 + 1, none⟩)) (fun _ _ => Below.refl _ _) rfl (by intro cs b h; cases h) (by kernel_rfl) (by kernel_rfl) (fun w1 _ => by simp [execOp, evE, lk_cons, go_sem]) ?_
      refine chain_load (.int .i64 en) _ _ _ (fun _ _ => Below.refl _ _) rfl rfl (by kernel_rfl) (by kernel_rfl) rfl (fun w1 hC => load_int (HC.out _ hC).2.1) ?_
      refine chain_val (.int .u8 (en % 256)) (fun _ _ => Below.refl _ _) rfl (by intro cs b h; cases h) (by kernel_rfl) (by kernel_rfl) (fun w1 _ => by simp [execOp, evE, lk_cons, go_sem, q1]) ?_
      refine chain_move (.int .i64 es.size) _ (fun _ _ => Below.refl _ _) rfl rfl (by kernel_rfl) (by kernel_rfl) rfl ?_
      refine chain_val (.int .i64 ((es.size : Int) % 256)) (fun _ _ => Below.refl _ _) rfl (by intro cs b h; cases h) (by kernel_rfl) (by kernel_rfl) (fun w1 _ => by simp [execOp, evE, lk_cons, go_sem, q1, q2, q3]) ?_
      refine chain_val (.int .u8 ((es.size : Int) % 256)) (fun _ _ => Below.refl _ _) rfl (by intro cs b h; cases h) (by kernel_rfl) (by kernel_rfl) (fun w1 _ => by simp [execOp, evE, lk_cons, go_sem, q1, q2, q3]) ?_
      refine chain_move (.int .i64 es.size) _ (fun _ _ => Below.refl _ _) rfl rfl (by kernel_rfl) (by kernel_rfl) rfl ?_
      refine chain_val (.int .i64 ((es.size : Int) / 256)) (fun _ _ => Below.refl _ _) rfl (by intro cs b h; cases h) (by kernel_rfl) (by kernel_rfl) (fun w1 _ => by simp [execOp, evE, lk_cons, go_sem, q1, q2, q3]) ?_
      refine chain_val (.int .u8 ((es.size : Int) / 256 % 256)) (fun _ _ => Below.refl _ _) rfl (by intro cs b h; cases h) (by kernel_rfl) (by kernel_rfl) (fun w1 _ => by simp [execOp, evE, lk_cons, go_sem, q1, q2, q3]) ?_
      refine chain_new (u8_w [eo % 256, en % 256, (es.size : Int) % 256, (es.size : Int) / 256 % 256]) (u8_lasts _) rfl (by intro cs b h; cases h) (by kernel_rfl) (by kernel_rfl) (fun w1 hC => u8_new (by simp [execOp, evE, lk_cons, go_sem, Instr.buildSlice]) hC) ?_
      refine chain_use (.string (hdrB eo en es.size)) 38 (u8_w [eo % 256, en % 256, (es.size : Int) % 256, (es.size : Int) / 256 % 256]) (fun _ _ => Below.refl _ _) rfl (by intro cs b h; cases h) (by kernel_rfl) rfl (by kernel_rfl) (fun _ => rfl) (fun x w1 hq => by simp only [execOp, ev_top]; rw [Sem.run_bind, u8_conv hq]; rfl) ?_
      refine chain_move (.slice (some ⟨lb, lo, none⟩) n cap) _ (fun _ _ => Below.refl _ _) rfl rfl (by kernel_rfl) (by kernel_rfl) rfl ?_
      refine chain_move (.int .i64 k) _ (fun _ _ => Below.refl _ _) rfl rfl (by kernel_rfl) (by kernel_rfl) rfl ?_
      refine chain_idx (.pointer (some ⟨lb, lo + k * 3, none⟩)) _ _ _ (.slice (some ⟨lb, lo, none⟩) n cap) (.int .i64 k) (fun _ _ => Below.refl _ _) rfl rfl (by kernel_rfl) (by kernel_rfl) rfl rfl (fun w1 => idx_ent _ _ _ _ _ hlt w1) ?_
      refine chain_val (.pointer (some ⟨lb, lo + k * 3 + 2, none⟩)) (fun _ _ => Below.refl _ _) rfl (by intro cs b h; cases h) (by kernel_rfl) (by kernel_rfl) (fun w1 _ => by simp [execOp, evE, lk_cons, go_sem]) ?_
      refine chain_load (.string es) _ _ _ (fun _ _ => Below.refl _ _) rfl rfl (by kernel_rfl) (by kernel_rfl) rfl (fun w1 hC => load_str (HC.out _ hC).2.2) ?_
      refine chain_val (.string (hdrB eo en es.size ++ es)) (fun _ _ => Below.refl _ _) rfl (by intro cs b h; cases h) (by kernel_rfl) (by kernel_rfl) (fun w1 _ => by simp [execOp, evE, lk_cons, go_sem, q4]) ?_
      refine chain_assign (.string (hdrB eo en es.size ++ es)) _ (fun _ _ => Below.refl _ _) rfl rfl (by kernel_rfl) (by kernel_rfl) rfl ?_
      refine chain_end (by rfl) ?_
      intro xs w6 hCw6 hrew6
      simp only [layE, List.foldr_cons, List.foldr_nil, List.set_cons_succ, List.set_cons_zero]
      have HB6 := Lib.hid (old_end HB.out hCw6 HB.out.size)
      obtain ⟨A, hA⟩ : ∃ A, A = hdrB eo en es.size ++ es := ⟨_, rfl⟩
      rw [← hA]
      have HEND : Hid (mixL g A.data.toList = entS g (eo, en, es)) := by rw [Hid, hA, ba_append, entS, mixL_app]
      have HAL : Hid (A.data.toList.length = A.size) := by rw [Hid, Array.length_toList]; rfl
      have hAz : A.size ≤ 3000 := by rw [← HAL.out, hA, ba_append, List.length_append, q5, q6]; omega
      clear hA q1 q2 q3 q4 q5 q6 HC c0 c1 c2 hCw6 hrew6 HSZ hsz
      go_wp2_with fail
      go_loopw [3, 7] (fun th tj wv => ∃ j : Nat, j ≤ A.size ∧ tj = .int .i64 j ∧ th = .int .u64 (mixL g (A.data.toList.take j)) ∧ w6 = wv) (fun _ tj _ => A.size - (intOf tj).toNat)
      case atStart => exact ⟨0, by omega, rfl, rfl, rfl⟩
      case round =>
        obtain ⟨j, hj, rfl, rfl, rfl⟩ := hrel
        obtain ⟨g2, hg2⟩ : ∃ g2, g2 = mixL g (A.data.toList.take j) := ⟨_, rfl⟩
        rw [← hg2]
        by_cases hlt2 : j < A.size
        · have HST2 : Hid (mixL g (A.data.toList.take (j + 1)) = mixS g2 A[j]) := by
            rw [Hid, hg2, mixL_step _ _ _ (by rw [HAL.out]; exact hlt2)]; rfl
          clear hg2
          have t2 : decide (j < A.size) = true := decide_eq_true hlt2
          go_wp2_with fail
          exact ⟨⟨j + 1, by omega, by simp, by rw [HST2.out, mixS], trivial⟩, by simp [intOf]; omega⟩
        · have HE2 : Hid (g2 = mixL g A.data.toList) := by
            rw [Hid, hg2, List.take_of_length_le (by rw [HAL.out]; omega)]
          clear hg2
          have t2 : decide (j < A.size) = false := decide_eq_false hlt2
          go_wp2_with fail
          exact ⟨⟨k + 1, by omega, by simp, by rw [HE2.out, HEND.out, HST.out], HB6.out⟩, by simp [intOf]; omega⟩
    · have HE : Hid (g = sumL ls) := by
        rw [Hid, hg, List.take_of_length_le (by rw [← HN.out]; omega)]
      clear hg
      go_wp2_with fail
      go_ret
      exact ⟨by rw [HE.out]; rfl, HB.out⟩
end Go.Proofs.Ytlkehdlhlpbomaa
