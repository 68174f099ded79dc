/- Layer 4: contradicts, CheckWhy and CheckClash of the program. -/
import Derived.Test.YtjcafjffmiknmaaGreatKe
namespace Go.Proofs.YtjcafjffmiknmaaGreat
set_option linter.unusedSimpArgs false
set_option linter.unusedVariables false
open Go Go.RowKit

/-- The ties contradict each other. -/
def conF (n : Nat) (us : List TieD) : Bool := us.any (wrB (grpL n us))
/-- The ties with these indices. -/
def subF (ts : List TieD) (l : List Int) : List TieD := l.filterMap fun i => ts[i.toNat]?
def incS (m : Nat) (x i : Int) : Option Int := if ftB i (x + 1) ((m : Int) - 1) then some i else none
/-- The last of these indices, if they grow and are those of m ties. -/
def incF (m : Nat) (l : List Int) : Option Int := l.foldlM (incS m) (-1)
def clashF (n : Nat) (ts : List TieD) (l : List Int) : Bool := (incF ts.length l).isSome && (conF n (subF ts l) && (List.range (subF ts l).length).all fun i => !conF n ((subF ts l).eraseIdx i))
theorem incF_step {m : Nat} {l : List Int} {j : Nat} (hj : j < l.length) : incF m (l.take (j + 1)) = (incF m (l.take j)).bind fun x => incS m x l[j] := by
  unfold incF
  rw [← List.take_append_getElem hj, List.foldlM_append]
  simp only [List.foldlM_cons, List.foldlM_nil, bind_pure]; rfl
theorem incF_none {m : Nat} {l : List Int} {j : Nat} (h : incF m (l.take j) = none) : incF m l = none := by
  unfold incF at *
  rw [← List.take_append_drop j l, List.foldlM_append, h]; rfl
theorem subF_step {ts : List TieD} {l : List Int} {j : Nat} (hj : j < l.length) {t : TieD} (ht : ts[l[j].toNat]? = some t) : subF ts (l.take (j + 1)) = subF ts (l.take j) ++ [t] := by
  unfold subF
  rw [← List.take_append_getElem hj, List.filterMap_append]
  simp [ht]
theorem incF_bound {m : Nat} {l : List Int} : ∀ {j : Nat} {x : Int}, j ≤ l.length → incF m (l.take j) = some x → -1 ≤ x ∧ x < m ∧ (j : Int) ≤ x + 1
  | 0, x, _, h => by
    have h : some (-1 : Int) = some x := h
    injection h with h
    omega
  | j + 1, x, hj, h => by
    rw [incF_step (by omega)] at h
    cases hp : incF m (l.take j) with
    | none => rw [hp] at h; cases h
    | some y =>
      have hb := incF_bound (by omega : j ≤ l.length) hp
      rw [hp] at h
      simp only [Option.bind_some] at h
      unfold incS ftB at h
      split at h
      · rename_i hc
        injection h with h
        simp only [Bool.and_eq_true, decide_eq_true_eq] at hc
        omega
      · cases h
theorem subF_len (ts : List TieD) (l : List Int) : (subF ts l).length ≤ l.length := List.length_filterMap_le _ _
theorem subF_mem {ts : List TieD} {l : List Int} {t : TieD} (h : t ∈ subF ts l) : t ∈ ts := by
  unfold subF at h
  obtain ⟨i, _, hi⟩ := List.mem_filterMap.1 h
  exact List.mem_of_getElem? hi
theorem all_range_step {f : Nat → Bool} {j : Nat} : (List.range (j + 1)).all f = ((List.range j).all f && f j) := by
  rw [List.range_succ, List.all_append]; simp
theorem all_range_bad {f : Nat → Bool} {j n : Nat} (hj : j < n) (h : f j = false) : (List.range n).all f = false := by
  rw [List.all_eq_false]
  exact ⟨j, List.mem_range.2 hj, by rw [h]; simp⟩
set_option maxRecDepth 100000 in
set_option maxHeartbeats 4000000 in
theorem contradicts_any (k : Nat) (a : Option Addr) (cap : Nat) (ts : List TieD) (w : World) (hk : k ≤ 32) (hl : ts.length ≤ 512) (hv : ∀ t ∈ ts, tieB t k = true) (hs : TiesAt w a ts) :
    Calls Tryz.prog 43 #[gV k a ts.length cap] w fun e w' => e = .returned (.bool (conF k ts)) ∧ Below w.heap.size w w' := by
  have HBE : Hid (∀ W, Below w.heap.size w W → Calls Tryz.prog 46 #[gV k a ts.length cap] W fun e w' => ∃ g, e = .returned (wkV k a ts.length cap g k) ∧ W.heap.size ≤ g ∧ NB w' g (grpL k ts) ∧ Below W.heap.size W w') := fun W hb => begin_any k a cap ts W hk hl hv (hs.below hb)
  have HWR : Hid (∀ W g, Below w.heap.size w W → NB W g (grpL k ts) → Calls Tryz.prog 47 #[wkV k a ts.length cap g k] W fun e w' => (∃ r : Int, e = .returned (.int .i64 r) ∧ decide (0 ≤ r) = conF k ts ∧ (r = -1 ∨ 0 ≤ r)) ∧ Below W.heap.size W w') := fun W g hb hg => (wrong_any a cap ts g k (grpL k ts) W (by omega) (hs.below hb) (grpL_len _ _) hk hv hg).mono fun e w' ⟨⟨r, h1, h2⟩, h3⟩ => by
    refine ⟨⟨r, h1, ?_⟩, h3⟩
    unfold conF
    rcases h2 with ⟨rfl, h4⟩ | ⟨j, t, rfl, hj, ht, _⟩
    · rw [h4]; exact ⟨rfl, .inl rfl⟩
    · have : ts.any (wrB (grpL k ts)) = true := List.any_eq_true.2 ⟨t, List.mem_of_getElem? hj, ht⟩
      rw [this]; exact ⟨decide_eq_true (by omega), .inr (by omega)⟩
  generalize ts.length = m at *
  generalize conF k ts = C at *
  have HK := Lib.hid (Blk.new w [.int .i64 k, .slice a m cap] 24)
  have HB0 : Hid (Below w.heap.size w (w.alloc (.cells #[.int .i64 k, .slice a m cap] 24))) := (Below.refl _ _).alloc (Nat.le_refl _) _
  clear hl hv hs hk
  simp only [gV] at HBE ⊢
  go_enter Tryz.func43, Tryz.ntmps43
  go_wp2_with (first | (go_at_call 46; go_loud (refine (HBE.out _ HB0.out).mono ?_; rintro e w1 ⟨g, rfl, _, hg, hb⟩; have HB1 := Lib.hid (HB0.out.trans (hb.mono HB0.out.size)); have HG := Lib.hid hg; clear hb hg HBE)) | (go_at_call 47; go_loud (refine (HWR.out _ _ HB1.out HG.out).mono ?_; rintro e w2 ⟨⟨r, rfl, hr, hr2⟩, hb⟩; have HB2 := Lib.hid (HB1.out.trans (hb.mono HB1.out.size)); have HR := Lib.hid hr; clear hb HWR hr hr2)))
  go_ret
  exact ⟨by rw [← HR.out]; rfl, HB2.out⟩
set_option maxRecDepth 100000 in
set_option maxHeartbeats 2000000 in
theorem checkWhy_any (n : Int) (a : Option Addr) (cap cq : Nat) (ts : List TieD) (r : Option Addr) (l : List Int) (x y : Int) (w : World) (hl2 : l.length ≤ 1000) (h0 : errA n ts x y = 0) (hs : TiesAt w a ts) (hr : IntsAt w r l) :
    Calls Tryz.prog 11 #[gV n a ts.length cap, .int .i64 x, .int .i64 y, .slice r l.length cq] w fun e w' => e = .returned (.int .i64 (chnF ts l x y 1)) ∧ Below w.heap.size w w' := by
  have HW : Hid (∀ W, Below w.heap.size w W → Calls Tryz.prog 37 #[gV n a ts.length cap, .int .i64 x, .int .i64 y, .slice r l.length cq, .int .i64 1] W fun e w' => e = .returned (.int .i64 (chnF ts l x y 1)) ∧ Below W.heap.size W w') := fun W hb => checkWalk_any n a cap cq ts r l x y 1 W hl2 h0 (hs.below hb) (hr.below hb)
  generalize chnF ts l x y 1 = E at *
  generalize ts.length = m at *
  generalize l.length = q at *
  have HB0 : Hid (Below w.heap.size w (w.alloc (.cells #[.int .i64 n, .slice a m cap] 24))) := (Below.refl _ _).alloc (Nat.le_refl _) _
  clear hl2 h0 hs hr
  simp only [gV] at HW ⊢
  go_enter Tryz.func11, Tryz.ntmps11
  go_wp2_with (first | (go_at_call 37; refine (HW.out _ HB0.out).mono ?_; rintro e w1 ⟨rfl, hb⟩; have HB3 := Lib.hid (HB0.out.trans (hb.mono HB0.out.size)); clear hb))
  go_ret
  exact ⟨rfl, HB3.out⟩
end Go.Proofs.YtjcafjffmiknmaaGreat
