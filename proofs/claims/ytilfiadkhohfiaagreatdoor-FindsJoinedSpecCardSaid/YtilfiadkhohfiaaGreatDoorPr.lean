/- Layer 2: joins of finds. -/
import Derived.Test.YtilfiadkhohfiaaGreatDoorPq
import Derived.KernelRfl
/- Runs of withMeasure. -/
set_option linter.unusedVariables false
namespace Go.Proofs.YtilfiadkhohfiaaGreatDoor
set_option linter.unusedSimpArgs false
set_option linter.unusedVariables false
open Go Go.RowKit Go.Clo
set_option maxRecDepth 100000
theorem wme_11 (W0 : World) (m : Mea) (x1 x2 x3 x4 x5 x6 x7 x8 x9 x10 x11 : Mea)  : valG Tryz.prog (semS Tryz.prog W0 1 noTb) 60 214 [(.sl 0 0 11 (.exact 11)), .agg [i64 m.1, i64 m.2.1, i64 m.2.2]] (roSt (meaC [x1, x2, x3, x4, x5, x6, x7, x8, x9, x10, x11])) rowOf = wmO [x1, x2, x3, x4, x5, x6, x7, x8, x9, x10, x11] m := by kernel_rfl
theorem wmAe_11 (W0 : World) (m : Mea) (x1 x2 x3 x4 x5 x6 x7 x8 x9 x10 x11 : Mea)  : askK Tryz.prog (semS Tryz.prog W0 1 noTb) 60 214 [(.sl 0 0 11 (.exact 11)), .agg [i64 m.1, i64 m.2.1, i64 m.2.2]] (roSt (meaC [x1, x2, x3, x4, x5, x6, x7, x8, x9, x10, x11])) false = askK Tryz.prog (semS Tryz.prog W0 1 noTb) 60 214 [(.sl 0 0 11 (.exact 11)), .agg [i64 m.1, i64 m.2.1, i64 m.2.2]] (roSt (meaC [x1, x2, x3, x4, x5, x6, x7, x8, x9, x10, x11])) true := by kernel_rfl
theorem wmm_11 (W0 : World) (m : Mea) (x1 x2 x3 x4 x5 x6 x7 x8 x9 x10 x11 : Mea) (c : Nat) : valG Tryz.prog (semS Tryz.prog W0 1 noTb) 60 214 [(.sl 0 0 11 (.exact (c + 12))), .agg [i64 m.1, i64 m.2.1, i64 m.2.2]] (roSt (meaC [x1, x2, x3, x4, x5, x6, x7, x8, x9, x10, x11])) rowOf = wmO [x1, x2, x3, x4, x5, x6, x7, x8, x9, x10, x11] m := by kernel_rfl
theorem wmAm_11 (W0 : World) (m : Mea) (x1 x2 x3 x4 x5 x6 x7 x8 x9 x10 x11 : Mea) (c : Nat) : askK Tryz.prog (semS Tryz.prog W0 1 noTb) 60 214 [(.sl 0 0 11 (.exact (c + 12))), .agg [i64 m.1, i64 m.2.1, i64 m.2.2]] (roSt (meaC [x1, x2, x3, x4, x5, x6, x7, x8, x9, x10, x11])) false = askK Tryz.prog (semS Tryz.prog W0 1 noTb) 60 214 [(.sl 0 0 11 (.exact (c + 12))), .agg [i64 m.1, i64 m.2.1, i64 m.2.2]] (roSt (meaC [x1, x2, x3, x4, x5, x6, x7, x8, x9, x10, x11])) true := by kernel_rfl
theorem wme_12 (W0 : World) (m : Mea) (x1 x2 x3 x4 x5 x6 x7 x8 x9 x10 x11 x12 : Mea)  : valG Tryz.prog (semS Tryz.prog W0 1 noTb) 60 214 [(.sl 0 0 12 (.exact 12)), .agg [i64 m.1, i64 m.2.1, i64 m.2.2]] (roSt (meaC [x1, x2, x3, x4, x5, x6, x7, x8, x9, x10, x11, x12])) rowOf = wmO [x1, x2, x3, x4, x5, x6, x7, x8, x9, x10, x11, x12] m := by kernel_rfl
theorem wmAe_12 (W0 : World) (m : Mea) (x1 x2 x3 x4 x5 x6 x7 x8 x9 x10 x11 x12 : Mea)  : askK Tryz.prog (semS Tryz.prog W0 1 noTb) 60 214 [(.sl 0 0 12 (.exact 12)), .agg [i64 m.1, i64 m.2.1, i64 m.2.2]] (roSt (meaC [x1, x2, x3, x4, x5, x6, x7, x8, x9, x10, x11, x12])) false = askK Tryz.prog (semS Tryz.prog W0 1 noTb) 60 214 [(.sl 0 0 12 (.exact 12)), .agg [i64 m.1, i64 m.2.1, i64 m.2.2]] (roSt (meaC [x1, x2, x3, x4, x5, x6, x7, x8, x9, x10, x11, x12])) true := by kernel_rfl
theorem wmm_12 (W0 : World) (m : Mea) (x1 x2 x3 x4 x5 x6 x7 x8 x9 x10 x11 x12 : Mea) (c : Nat) : valG Tryz.prog (semS Tryz.prog W0 1 noTb) 60 214 [(.sl 0 0 12 (.exact (c + 13))), .agg [i64 m.1, i64 m.2.1, i64 m.2.2]] (roSt (meaC [x1, x2, x3, x4, x5, x6, x7, x8, x9, x10, x11, x12])) rowOf = wmO [x1, x2, x3, x4, x5, x6, x7, x8, x9, x10, x11, x12] m := by kernel_rfl
theorem wmAm_12 (W0 : World) (m : Mea) (x1 x2 x3 x4 x5 x6 x7 x8 x9 x10 x11 x12 : Mea) (c : Nat) : askK Tryz.prog (semS Tryz.prog W0 1 noTb) 60 214 [(.sl 0 0 12 (.exact (c + 13))), .agg [i64 m.1, i64 m.2.1, i64 m.2.2]] (roSt (meaC [x1, x2, x3, x4, x5, x6, x7, x8, x9, x10, x11, x12])) false = askK Tryz.prog (semS Tryz.prog W0 1 noTb) 60 214 [(.sl 0 0 12 (.exact (c + 13))), .agg [i64 m.1, i64 m.2.1, i64 m.2.2]] (roSt (meaC [x1, x2, x3, x4, x5, x6, x7, x8, x9, x10, x11, x12])) true := by kernel_rfl
end Go.Proofs.YtilfiadkhohfiaaGreatDoor
/- Runs of withMeasure. -/
set_option linter.unusedVariables false
namespace Go.Proofs.YtilfiadkhohfiaaGreatDoor
set_option linter.unusedSimpArgs false
set_option linter.unusedVariables false
open Go Go.RowKit Go.Clo
set_option maxRecDepth 100000
theorem wme_13 (W0 : World) (m : Mea) (x1 x2 x3 x4 x5 x6 x7 x8 x9 x10 x11 x12 x13 : Mea)  : valG Tryz.prog (semS Tryz.prog W0 1 noTb) 60 214 [(.sl 0 0 13 (.exact 13)), .agg [i64 m.1, i64 m.2.1, i64 m.2.2]] (roSt (meaC [x1, x2, x3, x4, x5, x6, x7, x8, x9, x10, x11, x12, x13])) rowOf = wmO [x1, x2, x3, x4, x5, x6, x7, x8, x9, x10, x11, x12, x13] m := by kernel_rfl
theorem wmAe_13 (W0 : World) (m : Mea) (x1 x2 x3 x4 x5 x6 x7 x8 x9 x10 x11 x12 x13 : Mea)  : askK Tryz.prog (semS Tryz.prog W0 1 noTb) 60 214 [(.sl 0 0 13 (.exact 13)), .agg [i64 m.1, i64 m.2.1, i64 m.2.2]] (roSt (meaC [x1, x2, x3, x4, x5, x6, x7, x8, x9, x10, x11, x12, x13])) false = askK Tryz.prog (semS Tryz.prog W0 1 noTb) 60 214 [(.sl 0 0 13 (.exact 13)), .agg [i64 m.1, i64 m.2.1, i64 m.2.2]] (roSt (meaC [x1, x2, x3, x4, x5, x6, x7, x8, x9, x10, x11, x12, x13])) true := by kernel_rfl
theorem wmm_13 (W0 : World) (m : Mea) (x1 x2 x3 x4 x5 x6 x7 x8 x9 x10 x11 x12 x13 : Mea) (c : Nat) : valG Tryz.prog (semS Tryz.prog W0 1 noTb) 60 214 [(.sl 0 0 13 (.exact (c + 14))), .agg [i64 m.1, i64 m.2.1, i64 m.2.2]] (roSt (meaC [x1, x2, x3, x4, x5, x6, x7, x8, x9, x10, x11, x12, x13])) rowOf = wmO [x1, x2, x3, x4, x5, x6, x7, x8, x9, x10, x11, x12, x13] m := by kernel_rfl
theorem wmAm_13 (W0 : World) (m : Mea) (x1 x2 x3 x4 x5 x6 x7 x8 x9 x10 x11 x12 x13 : Mea) (c : Nat) : askK Tryz.prog (semS Tryz.prog W0 1 noTb) 60 214 [(.sl 0 0 13 (.exact (c + 14))), .agg [i64 m.1, i64 m.2.1, i64 m.2.2]] (roSt (meaC [x1, x2, x3, x4, x5, x6, x7, x8, x9, x10, x11, x12, x13])) false = askK Tryz.prog (semS Tryz.prog W0 1 noTb) 60 214 [(.sl 0 0 13 (.exact (c + 14))), .agg [i64 m.1, i64 m.2.1, i64 m.2.2]] (roSt (meaC [x1, x2, x3, x4, x5, x6, x7, x8, x9, x10, x11, x12, x13])) true := by kernel_rfl
theorem wme_14 (W0 : World) (m : Mea) (x1 x2 x3 x4 x5 x6 x7 x8 x9 x10 x11 x12 x13 x14 : Mea)  : valG Tryz.prog (semS Tryz.prog W0 1 noTb) 60 214 [(.sl 0 0 14 (.exact 14)), .agg [i64 m.1, i64 m.2.1, i64 m.2.2]] (roSt (meaC [x1, x2, x3, x4, x5, x6, x7, x8, x9, x10, x11, x12, x13, x14])) rowOf = wmO [x1, x2, x3, x4, x5, x6, x7, x8, x9, x10, x11, x12, x13, x14] m := by kernel_rfl
theorem wmAe_14 (W0 : World) (m : Mea) (x1 x2 x3 x4 x5 x6 x7 x8 x9 x10 x11 x12 x13 x14 : Mea)  : askK Tryz.prog (semS Tryz.prog W0 1 noTb) 60 214 [(.sl 0 0 14 (.exact 14)), .agg [i64 m.1, i64 m.2.1, i64 m.2.2]] (roSt (meaC [x1, x2, x3, x4, x5, x6, x7, x8, x9, x10, x11, x12, x13, x14])) false = askK Tryz.prog (semS Tryz.prog W0 1 noTb) 60 214 [(.sl 0 0 14 (.exact 14)), .agg [i64 m.1, i64 m.2.1, i64 m.2.2]] (roSt (meaC [x1, x2, x3, x4, x5, x6, x7, x8, x9, x10, x11, x12, x13, x14])) true := by kernel_rfl
theorem wmm_14 (W0 : World) (m : Mea) (x1 x2 x3 x4 x5 x6 x7 x8 x9 x10 x11 x12 x13 x14 : Mea) (c : Nat) : valG Tryz.prog (semS Tryz.prog W0 1 noTb) 60 214 [(.sl 0 0 14 (.exact (c + 15))), .agg [i64 m.1, i64 m.2.1, i64 m.2.2]] (roSt (meaC [x1, x2, x3, x4, x5, x6, x7, x8, x9, x10, x11, x12, x13, x14])) rowOf = wmO [x1, x2, x3, x4, x5, x6, x7, x8, x9, x10, x11, x12, x13, x14] m := by kernel_rfl
theorem wmAm_14 (W0 : World) (m : Mea) (x1 x2 x3 x4 x5 x6 x7 x8 x9 x10 x11 x12 x13 x14 : Mea) (c : Nat) : askK Tryz.prog (semS Tryz.prog W0 1 noTb) 60 214 [(.sl 0 0 14 (.exact (c + 15))), .agg [i64 m.1, i64 m.2.1, i64 m.2.2]] (roSt (meaC [x1, x2, x3, x4, x5, x6, x7, x8, x9, x10, x11, x12, x13, x14])) false = askK Tryz.prog (semS Tryz.prog W0 1 noTb) 60 214 [(.sl 0 0 14 (.exact (c + 15))), .agg [i64 m.1, i64 m.2.1, i64 m.2.2]] (roSt (meaC [x1, x2, x3, x4, x5, x6, x7, x8, x9, x10, x11, x12, x13, x14])) true := by kernel_rfl
end Go.Proofs.YtilfiadkhohfiaaGreatDoor
/- Runs of withMeasure. -/
set_option linter.unusedVariables false
namespace Go.Proofs.YtilfiadkhohfiaaGreatDoor
set_option linter.unusedSimpArgs false
set_option linter.unusedVariables false
open Go Go.RowKit Go.Clo
set_option maxRecDepth 100000
theorem wme_15 (W0 : World) (m : Mea) (x1 x2 x3 x4 x5 x6 x7 x8 x9 x10 x11 x12 x13 x14 x15 : Mea)  : valG Tryz.prog (semS Tryz.prog W0 1 noTb) 60 214 [(.sl 0 0 15 (.exact 15)), .agg [i64 m.1, i64 m.2.1, i64 m.2.2]] (roSt (meaC [x1, x2, x3, x4, x5, x6, x7, x8, x9, x10, x11, x12, x13, x14, x15])) rowOf = wmO [x1, x2, x3, x4, x5, x6, x7, x8, x9, x10, x11, x12, x13, x14, x15] m := by kernel_rfl
theorem wmAe_15 (W0 : World) (m : Mea) (x1 x2 x3 x4 x5 x6 x7 x8 x9 x10 x11 x12 x13 x14 x15 : Mea)  : askK Tryz.prog (semS Tryz.prog W0 1 noTb) 60 214 [(.sl 0 0 15 (.exact 15)), .agg [i64 m.1, i64 m.2.1, i64 m.2.2]] (roSt (meaC [x1, x2, x3, x4, x5, x6, x7, x8, x9, x10, x11, x12, x13, x14, x15])) false = askK Tryz.prog (semS Tryz.prog W0 1 noTb) 60 214 [(.sl 0 0 15 (.exact 15)), .agg [i64 m.1, i64 m.2.1, i64 m.2.2]] (roSt (meaC [x1, x2, x3, x4, x5, x6, x7, x8, x9, x10, x11, x12, x13, x14, x15])) true := by kernel_rfl
theorem wmm_15 (W0 : World) (m : Mea) (x1 x2 x3 x4 x5 x6 x7 x8 x9 x10 x11 x12 x13 x14 x15 : Mea) (c : Nat) : valG Tryz.prog (semS Tryz.prog W0 1 noTb) 60 214 [(.sl 0 0 15 (.exact (c + 16))), .agg [i64 m.1, i64 m.2.1, i64 m.2.2]] (roSt (meaC [x1, x2, x3, x4, x5, x6, x7, x8, x9, x10, x11, x12, x13, x14, x15])) rowOf = wmO [x1, x2, x3, x4, x5, x6, x7, x8, x9, x10, x11, x12, x13, x14, x15] m := by kernel_rfl
theorem wmAm_15 (W0 : World) (m : Mea) (x1 x2 x3 x4 x5 x6 x7 x8 x9 x10 x11 x12 x13 x14 x15 : Mea) (c : Nat) : askK Tryz.prog (semS Tryz.prog W0 1 noTb) 60 214 [(.sl 0 0 15 (.exact (c + 16))), .agg [i64 m.1, i64 m.2.1, i64 m.2.2]] (roSt (meaC [x1, x2, x3, x4, x5, x6, x7, x8, x9, x10, x11, x12, x13, x14, x15])) false = askK Tryz.prog (semS Tryz.prog W0 1 noTb) 60 214 [(.sl 0 0 15 (.exact (c + 16))), .agg [i64 m.1, i64 m.2.1, i64 m.2.2]] (roSt (meaC [x1, x2, x3, x4, x5, x6, x7, x8, x9, x10, x11, x12, x13, x14, x15])) true := by kernel_rfl
end Go.Proofs.YtilfiadkhohfiaaGreatDoor
/- Lists that a run makes. -/
namespace Go.Proofs.YtilfiadkhohfiaaGreatDoor
set_option linter.unusedSimpArgs false
set_option linter.unusedVariables false
open Go Go.RowKit Go.Clo

variable {P : Program} {W0 : World}
/-- A slice of measurements that has room for what it holds. -/
def Room (oc : Option Nat) (l : List Mea) : Prop := ∀ cap, oc = some cap → l.length ≤ cap
theorem meaC_inj_len {l l' : List Mea} (h : (meaC l).length = (meaC l').length) : l.length = l'.length := by
  rw [meaC_len, meaC_len] at h; omega
/-- A slice of measurements that a call has made. -/
def NewAt (N : Nat) (w : World) (u : Value) (l : List Mea) : Prop := ∃ blk off cap xs ty, u = .slice (some ⟨blk, off, none⟩) l.length cap ∧ N ≤ blk ∧ w.heap[blk]? = some (.cells (xs : List Value).toArray ty (0, 0)) ∧
  (∀ (i : Nat) (v : V), (meaC l)[i]? = some v → ∃ u, xs[off + i]? = some u ∧ E (fun _ => none) v u) ∧ off + cap * 3 ≤ xs.length ∧ (meaC l).length ≤ cap * 3
theorem meaC_num : ∀ {l : List Mea} {i : Nat} {v : V}, (meaC l)[i]? = some v → ∃ n, v = i64 n
  | [], i, v, h => by simp [meaC] at h
  | m :: l, 0, v, h => ⟨m.1, (Option.some.inj h).symm⟩
  | m :: l, 1, v, h => ⟨m.2.1, (Option.some.inj h).symm⟩
  | m :: l, 2, v, h => ⟨m.2.2, (Option.some.inj h).symm⟩
  | m :: l, i + 3, v, h => by
    have h' : (meaC l)[i]? = some v := h
    exact meaC_num h'
theorem NewAt.mea {N : Nat} {w : World} {u : Value} {l : List Mea} (h : NewAt N w u l) : ∃ cap, MeaAt w u (some cap) l ∧ l.length ≤ cap := by
  obtain ⟨blk, off, cap, xs, ty, rfl, _, h2, h3, h4, h5⟩ := h
  rw [meaC_len] at h5
  have hlt : blk < w.heap.size := by
    by_cases hh : blk < w.heap.size
    · exact hh
    · rw [Array.getElem?_eq_none (by omega)] at h2; cases h2
  refine ⟨cap, ⟨blk, off, rfl, hlt, fun i u hu => ?_⟩, by omega⟩
  obtain ⟨n, rfl, hn⟩ := meaVs_at hu
  obtain ⟨u', hu', he'⟩ := h3 i _ hn
  rw [E_i64_inv he'] at hu'
  rw [cell_of_row w blk _ _ _ _ h2]
  simpa using hu'
/-- What a result holds, in the program's world. -/
theorem row_new {ρ : Rho} {s : St} {w : World} (hR : Rel W0 ρ s w) {v : V} {u : Value} {l : List Mea} (hl : l ≠ []) (he : E ρ v u) (h : rowOf v s = .ok (meaC l)) : NewAt W0.heap.size w u l := by
  have hpos : 0 < l.length := List.length_pos_iff.2 hl
  have num : ∀ {i : Nat} {v : V} {u : Value}, (meaC l)[i]? = some v → E ρ v u → E (fun _ => none) v u := fun hv he => by
    obtain ⟨n, rfl⟩ := meaC_num hv
    rw [E_i64_inv he]
    exact E_i64 n
  unfold rowOf at h
  split at h
  · rename_i b off len cap
    split at h
    · rename_i k
      obtain ⟨h1, h2⟩ := ask_ok h
      have h1 := beq_eq h1
      split at h2
      · rename_i c ty sz next anc hb
        obtain ⟨h3, h4⟩ := ask_ok h2
        have h3 := beq_eq h3
        simp only [E] at he
        obtain ⟨q, hq, rfl⟩ := he
        obtain ⟨_, q', hq', hside, _, us, ty', e1, e2, e3, e4⟩ := hR.blk b _ hb
        rw [hq] at hq'; injection hq' with hq'; subst hq'
        have hsp := cut_spec h4
        have hlen := cut_len h4
        have hce := cut_eq h4
        rw [meaC_len] at hlen
        have hll : len = l.length := by omega
        subst h3 h1 hll
        refine ⟨q.blk, q.off + k * 3, q.cap - k, us, ty', rfl, hside, e1, fun i v hv => ?_, ?_, ?_⟩
        · have hi : i < l.length * 3 := by have := (List.getElem?_eq_some_iff.1 hv).1; rw [meaC_len] at this; omega
          have hv' := hv
          rw [hce, List.getElem?_take, if_pos hi, List.getElem?_drop] at hv'
          obtain ⟨u, hu, hE⟩ := e2 _ _ hv'
          exact ⟨u, by rw [Nat.add_assoc]; exact hu, num hv hE⟩
        · omega
        · rw [meaC_len]; omega
      · cases h2
    · rename_i k
      split at h
      · rename_i c ty hb
        obtain ⟨h1, h2⟩ := ask_ok h
        rw [Bool.and_eq_true] at h1
        have h1a := Nat.le_of_ble_eq_true h1.1
        have h1b := Nat.le_of_ble_eq_true h1.2
        simp only [E] at he
        obtain ⟨q, hq, rfl⟩ := he
        obtain ⟨_, q', hq', hside, _, e0, us, e1, e2⟩ := hR.blk b _ hb
        rw [hq] at hq'; injection hq' with hq'; subst hq'
        have hsp := cut_spec h2
        have hlen := cut_len h2
        have hce := cut_eq h2
        rw [meaC_len] at hlen
        have hll : len = l.length := by omega
        subst hll
        rw [lenN_eq] at h1b
        have hus := e2.len
        refine ⟨q.blk, q.off + off, k, us, ty, rfl, hside, e1, fun i v hv => ?_, ?_, ?_⟩
        · have hi : i < l.length * 3 := by have := (List.getElem?_eq_some_iff.1 hv).1; rw [meaC_len] at this; omega
          have hv' := hv
          rw [hce, List.getElem?_take, if_pos hi, List.getElem?_drop] at hv'
          obtain ⟨u, hu, hE⟩ := e2.at hv'
          exact ⟨u, by rw [e0, Nat.zero_add]; exact hu, num hv hE⟩
        · omega
        · rw [meaC_len]; omega
      · cases h
  · cases h
theorem row_at {ρ : Rho} {s : St} {w : World} (hR : Rel W0 ρ s w) {v : V} {u : Value} {l : List Mea} (hl : l ≠ []) (he : E ρ v u) (h : rowOf v s = .ok (meaC l)) : ∃ cap, MeaAt w u (some cap) l ∧ l.length ≤ cap := (row_new hR hl he h).mea
/-- A measurement as a value. -/
def meaVal (m : Mea) : Value := .agg #[.int .i64 m.1, .int .i64 m.2.1, .int .i64 m.2.2]
theorem E_meaV {ρ : Rho} (m : Mea) : E ρ (.agg [i64 m.1, i64 m.2.1, i64 m.2.2]) (meaVal m) := E_agg (EL.cons (E_i64 _) (EL.cons (E_i64 _) (EL.cons (E_i64 _) EL.nil)))
/-- Of a run that makes a list to a contract. -/
theorem list_calls (hmix : Tryz.prog.follows .mixedOrders = true) {W : World} {f : FuncId} {m : Mea} {ms : Value} {oc : Option Nat} {l l' : List Mea} (hM : MeaAt W ms oc l) (hl' : l' ≠ [])
    (hv : valG Tryz.prog (semS Tryz.prog W 1 noTb) 60 f [mvOf 0 oc l, .agg [i64 m.1, i64 m.2.1, i64 m.2.2]] (roSt (meaC l)) rowOf = some (.ok (meaC l')))
    (ha : askK Tryz.prog (semS Tryz.prog W 1 noTb) 60 f [mvOf 0 oc l, .agg [i64 m.1, i64 m.2.1, i64 m.2.2]] (roSt (meaC l)) false = askK Tryz.prog (semS Tryz.prog W 1 noTb) 60 f [mvOf 0 oc l, .agg [i64 m.1, i64 m.2.1, i64 m.2.2]] (roSt (meaC l)) true) :
    Calls Tryz.prog f #[ms, meaVal m] W fun e w' => ∃ u, e = .returned u ∧ NewAt W.heap.size w' u l' ∧ Below W.heap.size W w' := by
  obtain ⟨ρ, hR, he⟩ := hM.rel (Below.refl _ _)
  refine (valG_step hmix hv ha hR (us := [ms, meaVal m]) (EL.cons he (EL.cons (E_meaV m) EL.nil))).mono ?_
  rintro e w' ⟨ρ', v, s', u, rfl, hst, hE, hg⟩
  exact ⟨u, rfl, row_new hst.rel hl' hE hg, Step.belowOf hR hst noImg_ro⟩
theorem insM_ne (m : Mea) (l : List Mea) : insM m l ≠ [] := by
  cases l with
  | nil => simp [insM]
  | cons x l =>
    rw [insM_cons]
    split
    · simp
    · split <;> simp
end Go.Proofs.YtilfiadkhohfiaaGreatDoor
/- withMeasure puts a measurement in its place. -/
set_option linter.unusedVariables false
namespace Go.Proofs.YtilfiadkhohfiaaGreatDoor
set_option linter.unusedSimpArgs false
set_option linter.unusedVariables false
open Go Go.RowKit Go.Clo
/-- withMeasure puts a measurement in its place. -/
theorem withMeasure_any (hmix : Tryz.prog.follows .mixedOrders = true) {W : World} {ms : Value} {oc : Option Nat} {l : List Mea} (m : Mea) (hM : MeaAt W ms oc l) (ho : oc = none → l = []) (hr : Room oc l) (hk : Kinds l) (hm : 0 ≤ m.1 ∧ m.1 ≤ 15) (hn : l.length ≤ 15) :
    Calls Tryz.prog 214 #[ms, meaVal m] W fun e w' => ∃ u, e = .returned u ∧ NewAt W.heap.size w' u (insM m l) ∧ Below W.heap.size W w' := by
  cases oc with
  | none =>
    obtain rfl := ho rfl
    exact list_calls hmix hM (insM_ne m _) ((wmn_0 W m).trans (wmO_eq hk hm)) (wmAn_0 W m)
  | some cap =>
    have hcap : l.length ≤ cap := hr cap rfl
    by_cases hc : cap = l.length
    · match l, hc, hM, hk, hn with
      | [], hc, hM, hk, hn =>
        obtain rfl : cap = 0 := hc
        exact list_calls hmix hM (insM_ne m _) ((wme_0 W m ).trans (wmO_eq hk hm)) (wmAe_0 W m )
      | [x1], hc, hM, hk, hn =>
        obtain rfl : cap = 1 := hc
        exact list_calls hmix hM (insM_ne m _) ((wme_1 W m x1).trans (wmO_eq hk hm)) (wmAe_1 W m x1)
      | [x1, x2], hc, hM, hk, hn =>
        obtain rfl : cap = 2 := hc
        exact list_calls hmix hM (insM_ne m _) ((wme_2 W m x1 x2).trans (wmO_eq hk hm)) (wmAe_2 W m x1 x2)
      | [x1, x2, x3], hc, hM, hk, hn =>
        obtain rfl : cap = 3 := hc
        exact list_calls hmix hM (insM_ne m _) ((wme_3 W m x1 x2 x3).trans (wmO_eq hk hm)) (wmAe_3 W m x1 x2 x3)
      | [x1, x2, x3, x4], hc, hM, hk, hn =>
        obtain rfl : cap = 4 := hc
        exact list_calls hmix hM (insM_ne m _) ((wme_4 W m x1 x2 x3 x4).trans (wmO_eq hk hm)) (wmAe_4 W m x1 x2 x3 x4)
      | [x1, x2, x3, x4, x5], hc, hM, hk, hn =>
        obtain rfl : cap = 5 := hc
        exact list_calls hmix hM (insM_ne m _) ((wme_5 W m x1 x2 x3 x4 x5).trans (wmO_eq hk hm)) (wmAe_5 W m x1 x2 x3 x4 x5)
      | [x1, x2, x3, x4, x5, x6], hc, hM, hk, hn =>
        obtain rfl : cap = 6 := hc
        exact list_calls hmix hM (insM_ne m _) ((wme_6 W m x1 x2 x3 x4 x5 x6).trans (wmO_eq hk hm)) (wmAe_6 W m x1 x2 x3 x4 x5 x6)
      | [x1, x2, x3, x4, x5, x6, x7], hc, hM, hk, hn =>
        obtain rfl : cap = 7 := hc
        exact list_calls hmix hM (insM_ne m _) ((wme_7 W m x1 x2 x3 x4 x5 x6 x7).trans (wmO_eq hk hm)) (wmAe_7 W m x1 x2 x3 x4 x5 x6 x7)
      | [x1, x2, x3, x4, x5, x6, x7, x8], hc, hM, hk, hn =>
        obtain rfl : cap = 8 := hc
        exact list_calls hmix hM (insM_ne m _) ((wme_8 W m x1 x2 x3 x4 x5 x6 x7 x8).trans (wmO_eq hk hm)) (wmAe_8 W m x1 x2 x3 x4 x5 x6 x7 x8)
      | [x1, x2, x3, x4, x5, x6, x7, x8, x9], hc, hM, hk, hn =>
        obtain rfl : cap = 9 := hc
        exact list_calls hmix hM (insM_ne m _) ((wme_9 W m x1 x2 x3 x4 x5 x6 x7 x8 x9).trans (wmO_eq hk hm)) (wmAe_9 W m x1 x2 x3 x4 x5 x6 x7 x8 x9)
      | [x1, x2, x3, x4, x5, x6, x7, x8, x9, x10], hc, hM, hk, hn =>
        obtain rfl : cap = 10 := hc
        exact list_calls hmix hM (insM_ne m _) ((wme_10 W m x1 x2 x3 x4 x5 x6 x7 x8 x9 x10).trans (wmO_eq hk hm)) (wmAe_10 W m x1 x2 x3 x4 x5 x6 x7 x8 x9 x10)
      | [x1, x2, x3, x4, x5, x6, x7, x8, x9, x10, x11], hc, hM, hk, hn =>
        obtain rfl : cap = 11 := hc
        exact list_calls hmix hM (insM_ne m _) ((wme_11 W m x1 x2 x3 x4 x5 x6 x7 x8 x9 x10 x11).trans (wmO_eq hk hm)) (wmAe_11 W m x1 x2 x3 x4 x5 x6 x7 x8 x9 x10 x11)
      | [x1, x2, x3, x4, x5, x6, x7, x8, x9, x10, x11, x12], hc, hM, hk, hn =>
        obtain rfl : cap = 12 := hc
        exact list_calls hmix hM (insM_ne m _) ((wme_12 W m x1 x2 x3 x4 x5 x6 x7 x8 x9 x10 x11 x12).trans (wmO_eq hk hm)) (wmAe_12 W m x1 x2 x3 x4 x5 x6 x7 x8 x9 x10 x11 x12)
      | [x1, x2, x3, x4, x5, x6, x7, x8, x9, x10, x11, x12, x13], hc, hM, hk, hn =>
        obtain rfl : cap = 13 := hc
        exact list_calls hmix hM (insM_ne m _) ((wme_13 W m x1 x2 x3 x4 x5 x6 x7 x8 x9 x10 x11 x12 x13).trans (wmO_eq hk hm)) (wmAe_13 W m x1 x2 x3 x4 x5 x6 x7 x8 x9 x10 x11 x12 x13)
      | [x1, x2, x3, x4, x5, x6, x7, x8, x9, x10, x11, x12, x13, x14], hc, hM, hk, hn =>
        obtain rfl : cap = 14 := hc
        exact list_calls hmix hM (insM_ne m _) ((wme_14 W m x1 x2 x3 x4 x5 x6 x7 x8 x9 x10 x11 x12 x13 x14).trans (wmO_eq hk hm)) (wmAe_14 W m x1 x2 x3 x4 x5 x6 x7 x8 x9 x10 x11 x12 x13 x14)
      | [x1, x2, x3, x4, x5, x6, x7, x8, x9, x10, x11, x12, x13, x14, x15], hc, hM, hk, hn =>
        obtain rfl : cap = 15 := hc
        exact list_calls hmix hM (insM_ne m _) ((wme_15 W m x1 x2 x3 x4 x5 x6 x7 x8 x9 x10 x11 x12 x13 x14 x15).trans (wmO_eq hk hm)) (wmAe_15 W m x1 x2 x3 x4 x5 x6 x7 x8 x9 x10 x11 x12 x13 x14 x15)
      | x1 :: x2 :: x3 :: x4 :: x5 :: x6 :: x7 :: x8 :: x9 :: x10 :: x11 :: x12 :: x13 :: x14 :: x15 :: x16 :: r, hc, hM, hk, hn => simp only [List.length_cons] at hn; omega
    · obtain ⟨c, hc⟩ : ∃ c, cap = c + (l.length + 1) := ⟨cap - (l.length + 1), by omega⟩
      clear hcap hr
      match l, hc, hM, hk, hn with
      | [], hc, hM, hk, hn =>
        obtain rfl : cap = c + 1 := hc
        exact list_calls hmix hM (insM_ne m _) ((wmm_0 W m  c).trans (wmO_eq hk hm)) (wmAm_0 W m  c)
      | [x1], hc, hM, hk, hn =>
        obtain rfl : cap = c + 2 := hc
        exact list_calls hmix hM (insM_ne m _) ((wmm_1 W m x1 c).trans (wmO_eq hk hm)) (wmAm_1 W m x1 c)
      | [x1, x2], hc, hM, hk, hn =>
        obtain rfl : cap = c + 3 := hc
        exact list_calls hmix hM (insM_ne m _) ((wmm_2 W m x1 x2 c).trans (wmO_eq hk hm)) (wmAm_2 W m x1 x2 c)
      | [x1, x2, x3], hc, hM, hk, hn =>
        obtain rfl : cap = c + 4 := hc
        exact list_calls hmix hM (insM_ne m _) ((wmm_3 W m x1 x2 x3 c).trans (wmO_eq hk hm)) (wmAm_3 W m x1 x2 x3 c)
      | [x1, x2, x3, x4], hc, hM, hk, hn =>
        obtain rfl : cap = c + 5 := hc
        exact list_calls hmix hM (insM_ne m _) ((wmm_4 W m x1 x2 x3 x4 c).trans (wmO_eq hk hm)) (wmAm_4 W m x1 x2 x3 x4 c)
      | [x1, x2, x3, x4, x5], hc, hM, hk, hn =>
        obtain rfl : cap = c + 6 := hc
        exact list_calls hmix hM (insM_ne m _) ((wmm_5 W m x1 x2 x3 x4 x5 c).trans (wmO_eq hk hm)) (wmAm_5 W m x1 x2 x3 x4 x5 c)
      | [x1, x2, x3, x4, x5, x6], hc, hM, hk, hn =>
        obtain rfl : cap = c + 7 := hc
        exact list_calls hmix hM (insM_ne m _) ((wmm_6 W m x1 x2 x3 x4 x5 x6 c).trans (wmO_eq hk hm)) (wmAm_6 W m x1 x2 x3 x4 x5 x6 c)
      | [x1, x2, x3, x4, x5, x6, x7], hc, hM, hk, hn =>
        obtain rfl : cap = c + 8 := hc
        exact list_calls hmix hM (insM_ne m _) ((wmm_7 W m x1 x2 x3 x4 x5 x6 x7 c).trans (wmO_eq hk hm)) (wmAm_7 W m x1 x2 x3 x4 x5 x6 x7 c)
      | [x1, x2, x3, x4, x5, x6, x7, x8], hc, hM, hk, hn =>
        obtain rfl : cap = c + 9 := hc
        exact list_calls hmix hM (insM_ne m _) ((wmm_8 W m x1 x2 x3 x4 x5 x6 x7 x8 c).trans (wmO_eq hk hm)) (wmAm_8 W m x1 x2 x3 x4 x5 x6 x7 x8 c)
      | [x1, x2, x3, x4, x5, x6, x7, x8, x9], hc, hM, hk, hn =>
        obtain rfl : cap = c + 10 := hc
        exact list_calls hmix hM (insM_ne m _) ((wmm_9 W m x1 x2 x3 x4 x5 x6 x7 x8 x9 c).trans (wmO_eq hk hm)) (wmAm_9 W m x1 x2 x3 x4 x5 x6 x7 x8 x9 c)
      | [x1, x2, x3, x4, x5, x6, x7, x8, x9, x10], hc, hM, hk, hn =>
        obtain rfl : cap = c + 11 := hc
        exact list_calls hmix hM (insM_ne m _) ((wmm_10 W m x1 x2 x3 x4 x5 x6 x7 x8 x9 x10 c).trans (wmO_eq hk hm)) (wmAm_10 W m x1 x2 x3 x4 x5 x6 x7 x8 x9 x10 c)
      | [x1, x2, x3, x4, x5, x6, x7, x8, x9, x10, x11], hc, hM, hk, hn =>
        obtain rfl : cap = c + 12 := hc
        exact list_calls hmix hM (insM_ne m _) ((wmm_11 W m x1 x2 x3 x4 x5 x6 x7 x8 x9 x10 x11 c).trans (wmO_eq hk hm)) (wmAm_11 W m x1 x2 x3 x4 x5 x6 x7 x8 x9 x10 x11 c)
      | [x1, x2, x3, x4, x5, x6, x7, x8, x9, x10, x11, x12], hc, hM, hk, hn =>
        obtain rfl : cap = c + 13 := hc
        exact list_calls hmix hM (insM_ne m _) ((wmm_12 W m x1 x2 x3 x4 x5 x6 x7 x8 x9 x10 x11 x12 c).trans (wmO_eq hk hm)) (wmAm_12 W m x1 x2 x3 x4 x5 x6 x7 x8 x9 x10 x11 x12 c)
      | [x1, x2, x3, x4, x5, x6, x7, x8, x9, x10, x11, x12, x13], hc, hM, hk, hn =>
        obtain rfl : cap = c + 14 := hc
        exact list_calls hmix hM (insM_ne m _) ((wmm_13 W m x1 x2 x3 x4 x5 x6 x7 x8 x9 x10 x11 x12 x13 c).trans (wmO_eq hk hm)) (wmAm_13 W m x1 x2 x3 x4 x5 x6 x7 x8 x9 x10 x11 x12 x13 c)
      | [x1, x2, x3, x4, x5, x6, x7, x8, x9, x10, x11, x12, x13, x14], hc, hM, hk, hn =>
        obtain rfl : cap = c + 15 := hc
        exact list_calls hmix hM (insM_ne m _) ((wmm_14 W m x1 x2 x3 x4 x5 x6 x7 x8 x9 x10 x11 x12 x13 x14 c).trans (wmO_eq hk hm)) (wmAm_14 W m x1 x2 x3 x4 x5 x6 x7 x8 x9 x10 x11 x12 x13 x14 c)
      | [x1, x2, x3, x4, x5, x6, x7, x8, x9, x10, x11, x12, x13, x14, x15], hc, hM, hk, hn =>
        obtain rfl : cap = c + 16 := hc
        exact list_calls hmix hM (insM_ne m _) ((wmm_15 W m x1 x2 x3 x4 x5 x6 x7 x8 x9 x10 x11 x12 x13 x14 x15 c).trans (wmO_eq hk hm)) (wmAm_15 W m x1 x2 x3 x4 x5 x6 x7 x8 x9 x10 x11 x12 x13 x14 x15 c)
      | x1 :: x2 :: x3 :: x4 :: x5 :: x6 :: x7 :: x8 :: x9 :: x10 :: x11 :: x12 :: x13 :: x14 :: x15 :: x16 :: r, hc, hM, hk, hn => simp only [List.length_cons] at hn; omega
end Go.Proofs.YtilfiadkhohfiaaGreatDoor
