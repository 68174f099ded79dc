/- Layer 4: what follows without a source: plain mathematics. / Layer 4: isTold; Sort and Compact of owned rows. -/
import Derived.Test.YthjeiaildabadaaGreatF0
import Derived.Lib.SlicesCompact
import Derived.Test.YthjeiaildabadaaGreatKb
import Derived.Test.YthjeiaildabadaaGreatShelf2
/- Layer 4: what follows without a source: plain mathematics. -/
namespace Go.Proofs.YthjeiaildabadaaGreat
set_option linter.unusedSimpArgs false
set_option linter.unusedVariables false
open Go Go.RowKit

/-- Two nodes are joined or kept apart. -/
def told (n : Nat) (us : List TieD) (x y : Int) : Bool := (atI (grpL n us) x == atI (grpL n us) y) || apB (grpL n us) us x y
/-- The ties that are not from a source. -/
def wo (ts : List TieD) (s : Int) : List TieD := ts.filter fun t => !(t.src == s)
theorem wo_mem {ts : List TieD} {s : Int} {t : TieD} : t ∈ wo ts s ↔ t ∈ ts ∧ t.src ≠ s := by unfold wo; rw [List.mem_filter]; simp
theorem wo_valid {ts : List TieD} {s : Int} {n : Int} (hv : ∀ t ∈ ts, tieB t n = true) : ∀ t ∈ wo ts s, tieB t n = true := fun t ht => hv t (wo_mem.1 ht).1
theorem lead_same_us {ts us : List TieD} {n : Nat} (hv : ∀ t ∈ ts, tieB t n = true) (hu : ∀ t ∈ us, tieB t n = true) {l : List Int} {x y c : Int} (hx : x.toNat < n) (hy : y.toNat < n) (hi : ∀ i ∈ l, ∀ t, ts[i.toNat]? = some t → t ∈ us) (h : leadF ts l (x, c) = some (y, c)) : atI (grpL n us) x = atI (grpL n us) y :=
  (atI_iff (by rw [grpL_len]; exact hx) (by rw [grpL_len]; exact hy)).2 ((grp_eqv hu hx hy).2 (lead_us hv hi h))
theorem lead_apart_us {ts us : List TieD} {n : Nat} (hv : ∀ t ∈ ts, tieB t n = true) (hu : ∀ t ∈ us, tieB t n = true) : ∀ {l : List Int} {x y c : Int}, x.toNat < n → y.toNat < n → (∀ i ∈ l, ∀ t, ts[i.toNat]? = some t → t ∈ us) → leadF ts l (x, c) = some (y, c + 1) → apB (grpL n us) us x y = true
  | [], x, y, c, _, _, _, h => by
    have h : some (x, c) = some (y, c + 1) := h
    injection h with h; injection h with h1 h2
    omega
  | i :: l, x, y, c, hx, hy, hi, h => by
    obtain ⟨⟨z, f⟩, h1, h2⟩ := lead_cons_some h
    obtain ⟨h0, t, ht, rfl, hab⟩ := step_iff.1 h1
    have htm := List.mem_of_getElem? ht
    have htu := hi i List.mem_cons_self t ht
    obtain ⟨ga, _, gb, _, ga', gb'⟩ := tieB_in (hv t htm)
    have hz : z.toNat < n := by rcases hab with ⟨_, rfl⟩ | ⟨_, _, rfl⟩ <;> assumption
    have hil := fun k (hk : k ∈ l) => hi k (List.mem_cons_of_mem _ hk)
    rcases tie_kind (hv t htm) with hk | hk
    · have h5 : cutI t = 0 := by unfold cutI; rw [hk]; rfl
      rw [h5, Int.add_zero] at h2 h1
      have h6 := lead_apart_us hv hu hz hy hil h2
      have h7 : atI (grpL n us) x = atI (grpL n us) z := lead_same_us hv hu (l := [i]) (c := c) hx hz (fun k hk => by rw [List.mem_singleton] at hk; subst hk; exact hi _ List.mem_cons_self) (by rw [lead_cons, h1]; rfl)
      unfold apB cutB at h6 ⊢
      rw [h7]; exact h6
    · have h5 : cutI t = 1 := by unfold cutI; rw [hk]; rfl
      rw [h5] at h2
      have h7 := lead_same_us hv hu hz hy hil h2
      unfold apB
      refine List.any_eq_true.2 ⟨t, htu, ?_⟩
      unfold cutB
      simp only [Bool.and_eq_true, Bool.or_eq_true, beq_iff_eq]
      refine ⟨hk, ?_⟩
      rcases hab with ⟨rfl, rfl⟩ | ⟨_, rfl, rfl⟩
      · exact .inl ⟨rfl, h7⟩
      · exact .inr ⟨h7, rfl⟩
/-- Without a source from which no tie of a walk is, the walk still tells it. -/
theorem told_wo {ts : List TieD} {n : Nat} (hv : ∀ t ∈ ts, tieB t n = true) {l : List Int} {x y : Int} {cuts : Nat} (hc : cuts ≤ 1) (hx : x.toNat < n) (hy : y.toNat < n) (h : leadF ts l (x, 0) = some (y, (cuts : Int))) {s : Int} (hs : ∀ i ∈ l, ∀ t, ts[i.toNat]? = some t → t.src ≠ s) : told n (wo ts s) x y = true := by
  have hi : ∀ i ∈ l, ∀ t, ts[i.toNat]? = some t → t ∈ wo ts s := fun i h1 t h2 => wo_mem.2 ⟨List.mem_of_getElem? h2, hs i h1 t h2⟩
  unfold told
  have hcc : cuts = 0 ∨ cuts = 1 := by omega
  rcases hcc with rfl | rfl
  · rw [lead_same_us hv (wo_valid hv) hx hy hi h]; simp
  · rw [lead_apart_us hv (wo_valid hv) (c := 0) hx hy hi h]; simp
theorem not_told {ts : List TieD} {n p z : Nat} (hv : ∀ t ∈ ts, tieB t n = true) (hp : p < n) (hz : z < n) (h0 : ∀ l : List Int, leadF ts l ((p : Int), 0) ≠ some ((z : Int), ((0 : Nat) : Int))) (h1 : ∀ l : List Int, leadF ts l ((p : Int), 0) ≠ some ((z : Int), ((1 : Nat) : Int))) : told n ts p z = false := by
  unfold told
  rw [Bool.or_eq_false_iff]
  constructor
  · rw [beq_eq_false_iff_ne]
    intro e
    obtain ⟨l, hl⟩ := same_lead hv hp hz e
    exact h0 l (hl 0)
  · cases h : apB (grpL n ts) ts p z with
    | false => rfl
    | true =>
      obtain ⟨l, hl⟩ := apart_lead hv hp hz h
      exact absurd hl (h1 l)
theorem lead_told {ts : List TieD} {n : Nat} (hv : ∀ t ∈ ts, tieB t n = true) {l : List Int} {x y : Int} {cuts : Nat} (hc : cuts ≤ 1) (hx : x.toNat < n) (hy : y.toNat < n) (h : leadF ts l (x, 0) = some (y, (cuts : Int))) : told n ts x y = true := by
  unfold told
  have hcc : cuts = 0 ∨ cuts = 1 := by omega
  rcases hcc with rfl | rfl
  · rw [lead_same hv hx hy h]; simp
  · rw [lead_apart hv (c := 0) hx hy h]; simp
/-- With fewer ties nothing is told that was not. -/
theorem told_less {ts us : List TieD} {n : Nat} (hv : ∀ t ∈ ts, tieB t n = true) (hu : ∀ t ∈ us, t ∈ ts) {x y : Int} (hx : x.toNat < n) (hy : y.toNat < n) : (atI (grpL n us) x = atI (grpL n us) y → atI (grpL n ts) x = atI (grpL n ts) y) ∧ (apB (grpL n us) us x y = true → apB (grpL n ts) ts x y = true) := by
  have hvu := fun t ht => hv t (hu t ht)
  refine ⟨grp_sub hvu hv hu hx hy, fun h => ?_⟩
  unfold apB at h ⊢
  obtain ⟨t, ht, hc⟩ := List.any_eq_true.1 h
  obtain ⟨_, _, _, _, ga, gb⟩ := tieB_in (hvu t ht)
  refine List.any_eq_true.2 ⟨t, hu t ht, ?_⟩
  unfold cutB at hc ⊢
  simp only [Bool.and_eq_true, Bool.or_eq_true, beq_iff_eq] at hc ⊢
  refine ⟨hc.1, ?_⟩
  rcases hc.2 with ⟨h1, h2⟩ | ⟨h1, h2⟩
  · exact .inl ⟨grp_sub hvu hv hu ga hx h1, grp_sub hvu hv hu gb hy h2⟩
  · exact .inr ⟨grp_sub hvu hv hu ga hy h1, grp_sub hvu hv hu gb hx h2⟩
/-- The source of a tie. -/
def srcA (ts : List TieD) (i : Int) : Int := ((ts[i.toNat]?).map (·.src)).getD 0
/-- The sources on which a walk rests, in the order in which it comes by. -/
def rstL (n : Nat) (ts : List TieD) (x y : Int) (l : List Int) : List Int := (l.map (srcA ts)).filter fun s => !told n (wo ts s) x y
theorem lead_valid {ts : List TieD} : ∀ {l : List Int} {p q : Int × Int}, leadF ts l p = some q → ∀ i ∈ l, 0 ≤ i ∧ ∃ t, ts[i.toNat]? = some t
  | [], _, _, _, i, hi => by cases hi
  | k :: l, (x, c), q, h, i, hi => by
    obtain ⟨⟨z, f⟩, h1, h2⟩ := lead_cons_some h
    rcases List.mem_cons.1 hi with rfl | hi
    · obtain ⟨h0, t, ht, _⟩ := step_iff.1 h1
      exact ⟨h0, t, ht⟩
    · exact lead_valid h2 i hi
theorem rst_mem {ts : List TieD} {n : Nat} (hv : ∀ t ∈ ts, tieB t n = true) {l : List Int} {x y : Int} {cuts : Nat} (hc : cuts ≤ 1) (hx : x.toNat < n) (hy : y.toNat < n) (h : leadF ts l (x, 0) = some (y, (cuts : Int))) (s : Int) : s ∈ rstL n ts x y l ↔ told n (wo ts s) x y = false := by
  unfold rstL
  rw [List.mem_filter, List.mem_map]
  constructor
  · rintro ⟨_, h2⟩; simpa using h2
  · intro h2
    refine ⟨?_, by rw [h2]; rfl⟩
    refine Classical.byContradiction fun hno => ?_
    have := told_wo hv hc hx hy h (s := s) fun i hi t ht e => hno ⟨i, hi, by unfold srcA; rw [ht]; exact e⟩
    rw [h2] at this; cases this
/-- Runs of equal elements of a sorted list made one. -/
theorem compact_at {zs : List Int} {x : Int} : x ∈ Lib.compact zs ↔ ∃ j, ∃ h : j < zs.length, zs[j] = x ∧ (j = 0 ∨ ∀ h' : j - 1 < zs.length, zs[j - 1] ≠ zs[j]) := by
  unfold Lib.compact Lib.compactUpTo
  simp only [List.mem_map, List.mem_filter, List.mem_range]
  have e : ∀ j, (h : j < zs.length) → zs.toArray[j]! = zs[j] := fun j h => by rw [getElem!_pos zs.toArray j (by simpa using h)]; simp
  constructor
  · rintro ⟨j, ⟨hj, hk⟩, rfl⟩
    refine ⟨j, hj, (e j hj).symm, ?_⟩
    unfold Lib.keeps at hk
    rw [decide_eq_true_eq] at hk
    rcases hk with hk | hk
    · exact .inl hk
    · refine .inr fun h' he => hk ?_
      rw [e j hj, e (j - 1) h', he]
  · rintro ⟨j, hj, rfl, hk⟩
    refine ⟨j, ⟨hj, ?_⟩, e j hj⟩
    unfold Lib.keeps
    rw [decide_eq_true_eq]
    rcases hk with hk | hk
    · exact .inl hk
    · refine .inr fun he => hk (by omega) ?_
      rw [e j hj, e (j - 1) (by omega)] at he; exact he.symm
theorem compact_mem {zs : List Int} {x : Int} : x ∈ Lib.compact zs ↔ x ∈ zs := by
  rw [compact_at]
  constructor
  · rintro ⟨j, hj, rfl, _⟩; exact List.getElem_mem hj
  · intro hx
    obtain ⟨j, hj, he⟩ := List.mem_iff_getElem.1 hx
    have gen : ∀ j (hj : j < zs.length), zs[j] = x → ∃ j, ∃ h : j < zs.length, zs[j] = x ∧ (j = 0 ∨ ∀ h' : j - 1 < zs.length, zs[j - 1] ≠ zs[j]) := by
      intro j
      induction j with
      | zero => intro hj he; exact ⟨0, hj, he, .inl rfl⟩
      | succ j ih =>
        intro hj he
        by_cases h : zs[j] = x
        · exact ih (by omega) h
        · exact ⟨j + 1, hj, he, .inr fun h' e2 => h (by rw [← he]; exact e2)⟩
    exact gen j hj he
theorem compact_lt {zs : List Int} (hs : zs.Pairwise (· ≤ ·)) : (Lib.compact zs).Pairwise (· < ·) := by
  unfold Lib.compact Lib.compactUpTo
  have e : ∀ j, (h : j < zs.length) → zs.toArray[j]! = zs[j] := fun j h => by rw [getElem!_pos zs.toArray j (by simpa using h)]; simp
  rw [List.pairwise_map]
  have hp : List.Pairwise (· < ·) ((List.range zs.length).filter (Lib.keeps zs.toArray)) := List.Pairwise.filter _ List.pairwise_lt_range
  refine hp.imp_of_mem fun {j k} hj hk hjk => ?_
  obtain ⟨hj1, _⟩ := List.mem_filter.1 hj
  obtain ⟨hk1, hk2⟩ := List.mem_filter.1 hk
  rw [List.mem_range] at hj1 hk1
  unfold Lib.keeps at hk2
  rw [decide_eq_true_eq] at hk2
  have hk3 := hk2.resolve_left (by omega)
  rw [e j hj1, e k hk1]
  rw [e k hk1, e (k - 1) (by omega)] at hk3
  have ss := List.pairwise_iff_getElem.1 hs
  have h1 : zs[k - 1] ≤ zs[k] := ss (k - 1) k (by omega) hk1 (by omega)
  have h2 : zs[j] ≤ zs[k - 1] := by
    by_cases e2 : j = k - 1
    · subst e2; exact Int.le_refl _
    · exact ss j (k - 1) hj1 (by omega) (by omega)
  omega
/-- What Rests returns: in increasing order, none twice. -/
structure RstR (n : Nat) (ts : List TieD) (x y : Int) (R : List Int) : Prop where
  inc : R.Pairwise (· < ·)
  mem : ∀ s, s ∈ R ↔ told n (wo ts s) x y = false
theorem sorted_le (l : List Int) : (l.mergeSort fun x y => decide (x ≤ y)).Pairwise (· ≤ ·) := by
  have h := List.pairwise_mergeSort (le := fun x y : Int => decide (x ≤ y)) (fun a b c h1 h2 => by simp only [decide_eq_true_eq] at *; omega) (fun a b => by simp only [Bool.or_eq_true, decide_eq_true_eq]; omega) l
  exact h.imp fun {a b} h => by simpa using h
theorem rst_done {ts : List TieD} {n : Nat} (hv : ∀ t ∈ ts, tieB t n = true) {l : List Int} {x y : Int} {cuts : Nat} (hc : cuts ≤ 1) (hx : x.toNat < n) (hy : y.toNat < n) (h : leadF ts l (x, 0) = some (y, (cuts : Int))) : RstR n ts x y (Lib.compact ((rstL n ts x y l).mergeSort fun x y => decide (x ≤ y))) :=
  ⟨compact_lt (sorted_le _), fun s => by rw [compact_mem, (List.mergeSort_perm _ _).mem_iff, rst_mem hv hc hx hy h]⟩
end Go.Proofs.YthjeiaildabadaaGreat
/- Layer 4: isTold; Sort and Compact of owned rows. -/
namespace Go.Proofs.YthjeiaildabadaaGreat
set_option linter.unusedSimpArgs false
set_option linter.unusedVariables false
open Go Go.RowKit Go.Sort

set_option maxRecDepth 100000 in
set_option maxHeartbeats 2000000 in
theorem isTold_any (a : Option Addr) (cap : Nat) (ts : List TieD) (g k x y : Nat) (w : World) (hl : ts.length ≤ 512) (hs : TiesAt w a ts) (hk : k ≤ 32) (hx : x < k) (hy : y < k) (hv : ∀ t ∈ ts, tieB t k = true) (h : NB w g (grpL k ts)) :
    Calls Tryz.prog 67 #[wkV k a ts.length cap g k, .int .i64 x, .int .i64 y] w fun e w' => e = .returned (.bool (told k ts x y)) ∧ Below w.heap.size w w' := by
  have hLk : (grpL k ts).length = k := grpL_len k ts
  have HJ : Hid (∀ W, Below w.heap.size w W → Calls Tryz.prog 45 #[.slice (some ⟨g, 0, none⟩) k k, .int .i64 x, .int .i64 y] W fun e w' => e = .returned (.bool (atI (grpL k ts) x == atI (grpL k ts) y)) ∧ Below W.heap.size W w') := fun W hb => by
    have h1 := joined_any g (grpL k ts) x y W (by omega) (h.block (hb.block g h.lt)) (by omega) (by omega)
    rw [hLk] at h1; exact h1
  have HA : Hid (∀ W, Below w.heap.size w W → Calls Tryz.prog 76 #[.agg #[.int .i64 k, .slice a ts.length cap, .slice (some ⟨g, 0, none⟩) k k], .int .i64 x, .int .i64 y] W fun e w' => e = .returned (.bool (apB (grpL k ts) ts x y)) ∧ Below W.heap.size W w') := fun W hb => apart_any a cap ts g k x y (grpL k ts) W (by omega) (hs.below hb) hLk hk hx hy hv (h.block (hb.block g h.lt))
  unfold told
  generalize (atI (grpL k ts) x == atI (grpL k ts) y) = J at *
  generalize apB (grpL k ts) ts x y = A at *
  generalize ts.length = m at *
  have HB := Lib.hid (Blk.new w [.int .i64 k, .slice a m cap, .slice (some ⟨g, 0, none⟩) k k] 65)
  have HB0 : Hid (Below w.heap.size w (w.alloc (.cells #[.int .i64 k, .slice a m cap, .slice (some ⟨g, 0, none⟩) k k] 65))) := (Below.refl _ _).alloc (Nat.le_refl _) _
  clear hl hs hk hx hy hv h hLk
  simp only [wkV]
  cases J <;> cases A
  all_goals (
    have c2 := HB.out.cell (i := 2) rfl
    go_enter Tryz.func67, Tryz.ntmps67
    go_wp2_with (first | (go_at_call 45; refine (HJ.out _ HB0.out).mono ?_; rintro e w1 ⟨rfl, hb⟩; clear HJ c2; replace HB := Lib.hid (HB.out.below hb); have HB1 := Lib.hid (HB0.out.trans (hb.mono HB0.out.size)); clear hb; have c0 := HB.out.cell (i := 0) rfl; have c1 := HB.out.cell (i := 1) rfl; have c2 := HB.out.cell (i := 2) rfl) | (go_at_call 76; refine (HA.out _ HB1.out).mono ?_; rintro e w2 ⟨rfl, hb⟩; clear HA c0 c1 c2; have HB2 := Lib.hid (HB1.out.trans (hb.mono HB1.out.size)); clear hb))
    go_ret
    exact ⟨rfl, by first | exact HB2.out | exact HB1.out⟩)
theorem sort_any (W : World) (base : Nat) (r : Option Addr) (cap : Nat) (l : List Int) (hl : l.length ≤ 1000) (hb : base ≤ W.heap.size) (h : W.ownsRow base 3 1 (.slice r l.length cap) l.length (ivL l)) :
    Calls Tryz.prog 68 #[.slice r l.length cap] W fun e w' => (∃ u, e = .returned u) ∧ w'.ownsRow base 3 1 (.slice r l.length cap) l.length (ivL (l.mergeSort fun x y => decide (x ≤ y))) ∧ Below base W w' := by
  by_cases hne : l = []
  · subst hne
    refine (Tryz.slices_Sort_int_none r cap W).mono fun e w' ⟨h1, h2⟩ => ?_
    subst h2
    exact ⟨⟨_, h1⟩, by simpa using h, Below.refl _ _⟩
  · exact sort_ok W base r cap l hl hne hb h
theorem IntsAt.pre {W : World} {r : Option Addr} {l d : List Int} (h : IntsAt W r (l ++ d)) : IntsAt W r l := by
  rcases h with h | ⟨b, o, rfl, hb, h⟩
  · exact .inl (List.append_eq_nil_iff.1 h).1
  · refine .inr ⟨b, o, rfl, hb, fun i x hi => h i x ?_⟩
    rw [List.getElem?_append_left (List.getElem?_eq_some_iff.1 hi).1]; exact hi
theorem compact_len (zs : List Int) : (Lib.compact zs).length ≤ zs.length := by
  unfold Lib.compact Lib.compactUpTo
  rw [List.length_map]
  exact Nat.le_trans (List.length_filter_le _ _) (by simp)
theorem compact_any (W : World) (base : Nat) (r : Option Addr) (cap : Nat) (l : List Int) (hl : l.length ≤ 1000) (hb : base ≤ W.heap.size) (h : W.ownsRow base 3 1 (.slice r l.length cap) l.length (ivL l)) :
    Calls Tryz.prog 69 #[.slice r l.length cap] W fun e w' => (∃ c, e = .returned (.slice r (Lib.compact l).length c)) ∧ IntsAt w' r (Lib.compact l) ∧ Below base W w' := by
  by_cases hne : l = []
  · subst hne
    refine (Tryz.slices_Compact_int_empty r cap W).mono fun e w' ⟨h1, h2⟩ => ?_
    subst h2
    exact ⟨⟨cap, h1⟩, .inl rfl, Below.refl _ _⟩
  · rcases own_shape h with h0 | ⟨g, rfl⟩
    · exact absurd (List.length_eq_zero_iff.1 h0) hne
    · obtain ⟨cur, hg, hlt, _, hlc, _⟩ := own_row h
      refine (Tryz.slices_Compact_int g 0 cap l W (row_holds h) (by omega) hlc).mono fun e w' ⟨h1, q, h2⟩ => ?_
      have hlen : (Lib.compact l ++ List.replicate (l.length - (Lib.compact l).length) 0).length = l.length := by have := compact_len l; simp; omega
      have := row_put (n := q) (d := Lib.compact l ++ List.replicate (l.length - (Lib.compact l).length) 0) h hlen hb #[]
      rw [grow_empty, ← h2] at this
      exact ⟨⟨cap, h1⟩, (own_intsB this.1).2.pre, this.2⟩
end Go.Proofs.YthjeiaildabadaaGreat
