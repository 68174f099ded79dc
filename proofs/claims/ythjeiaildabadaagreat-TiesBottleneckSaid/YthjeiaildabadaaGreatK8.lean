/- Layer 4: more ties, and merging: plain mathematics. / Layer 4: ways over ties. -/
import Derived.Test.YthjeiaildabadaaGreatK6
import Derived.Test.YthjeiaildabadaaGreatK7
/- Layer 4: more ties, and merging: plain mathematics. -/
namespace Go.Proofs.YthjeiaildabadaaGreat
set_option linter.unusedSimpArgs false
set_option linter.unusedVariables false
open Go Go.RowKit

theorem joins_mono {ts us : List TieD} (h : ∀ t ∈ ts, t ∈ us) {i k : Nat} (hr : TieR (joinsT ts) i k) : TieR (joinsT us) i k := by
  unfold TieR joinsT at *
  obtain ⟨t, ht, he⟩ := List.mem_map.1 hr
  obtain ⟨ht, hk⟩ := List.mem_filter.1 ht
  exact List.mem_map.2 ⟨t, List.mem_filter.2 ⟨h t ht, hk⟩, he⟩
theorem grp_eqv {n : Nat} {ts : List TieD} (hv : ∀ t ∈ ts, tieB t n = true) {i k : Nat} (hi : i < n) (hk : k < n) : (grpL n ts)[i]? = (grpL n ts)[k]? ↔ Eqv (TieR (joinsT ts)) i k := by
  have h := grp_least n ts hv
  refine ⟨fun e => ?_, fun e => h.same i k e⟩
  have e1 := List.getElem?_eq_getElem (l := grpL n ts) (i := i) (by rw [grpL_len]; exact hi)
  have e2 := e ▸ e1
  obtain ⟨_, _, a1⟩ := h.cls i _ e1
  obtain ⟨_, _, a2⟩ := h.cls k _ e2
  exact a1.trans a2.symm
theorem atI_iff {l : List Int} {i k : Int} (hi : i.toNat < l.length) (hk : k.toNat < l.length) : atI l i = atI l k ↔ l[i.toNat]? = l[k.toNat]? := by
  rw [atI_some hi, atI_some hk]
  exact ⟨fun h => by rw [h], fun h => by injection h⟩
theorem grp_sub {n : Nat} {ts us : List TieD} (hv : ∀ t ∈ ts, tieB t n = true) (hv' : ∀ t ∈ us, tieB t n = true) (h : ∀ t ∈ ts, t ∈ us) {i k : Int} (hi : i.toNat < n) (hk : k.toNat < n) (e : atI (grpL n ts) i = atI (grpL n ts) k) : atI (grpL n us) i = atI (grpL n us) k := by
  have e1 := (grp_eqv hv hi hk).1 ((atI_iff (by rw [grpL_len]; exact hi) (by rw [grpL_len]; exact hk)).1 e)
  exact (atI_iff (by rw [grpL_len]; exact hi) (by rw [grpL_len]; exact hk)).2 ((grp_eqv hv' hi hk).2 (e1.mono fun i k hr => .base (joins_mono h hr)))
theorem grp_same {n : Nat} {ts us : List TieD} (hv : ∀ t ∈ ts, tieB t n = true) (hv' : ∀ t ∈ us, tieB t n = true) (h : ∀ t, t ∈ ts ↔ t ∈ us) : grpL n ts = grpL n us :=
  (grp_least n ts hv).uniq ((grp_least n us hv').iff fun i k => ⟨fun e => e.mono fun i k hr => .base (joins_mono (fun t ht => (h t).2 ht) hr), fun e => e.mono fun i k hr => .base (joins_mono (fun t ht => (h t).1 ht) hr)⟩)
theorem okG_parts {n : Int} {ts : List TieD} (h : okG n ts = true) : ∃ k : Nat, n = k ∧ 1 ≤ k ∧ k ≤ 32 ∧ ts.length ≤ 512 ∧ ∀ t ∈ ts, tieB t k = true := by
  unfold okG ftB at h
  simp only [Bool.and_eq_true, decide_eq_true_eq] at h
  obtain ⟨k, rfl⟩ := Int.eq_ofNat_of_zero_le (by omega : 0 ≤ n)
  exact ⟨k, rfl, by omega, by omega, h.1.2, fun t ht => List.all_eq_true.1 h.2 t ht⟩
theorem okG_mk {k : Nat} {ts : List TieD} (h1 : 1 ≤ k) (h2 : k ≤ 32) (h3 : ts.length ≤ 512) (h4 : ∀ t ∈ ts, tieB t k = true) : okG k ts = true := by
  unfold okG ftB
  simp only [Bool.and_eq_true, decide_eq_true_eq]
  exact ⟨⟨⟨by omega, by omega⟩, h3⟩, List.all_eq_true.2 h4⟩
theorem errA_ok {n : Int} {ts : List TieD} {x y : Int} (h : errA n ts x y = 0) : okG n ts = true ∧ (ftB x 0 (n - 1) && ftB y 0 (n - 1)) = true := by
  unfold errA at h
  cases ho : okG n ts with
  | false => rw [ho] at h; simp at h
  | true =>
    rw [ho] at h
    cases hx : (ftB x 0 (n - 1) && ftB y 0 (n - 1)) with
    | false => rw [hx] at h; simp at h
    | true => exact ⟨rfl, rfl⟩
theorem errA_of {n : Int} {ts : List TieD} {x y : Int} (h : okG n ts = true) (hx : (ftB x 0 (n - 1) && ftB y 0 (n - 1)) = true) : errA n ts x y = 0 := by unfold errA; rw [h, hx]; rfl
theorem nodes_in {k : Nat} {x y : Int} (h : (ftB x 0 ((k : Int) - 1) && ftB y 0 ((k : Int) - 1)) = true) : x.toNat < k ∧ y.toNat < k := by
  unfold ftB at h
  simp only [Bool.and_eq_true, decide_eq_true_eq] at h
  omega
theorem sameR_mono {n : Int} {ts us : List TieD} {x y : Int} (h : errA n ts x y = 0) (h' : errA n us x y = 0) (hs : ∀ t ∈ ts, t ∈ us) (hx : sameR n ts x y = true) : sameR n us x y = true := by
  unfold sameR at *
  rw [if_pos h] at hx
  rw [if_pos h']
  obtain ⟨h1, h2⟩ := errA_ok h
  obtain ⟨h1', _⟩ := errA_ok h'
  obtain ⟨k, rfl, _, _, _, hv⟩ := okG_parts h1
  obtain ⟨k', e, _, _, _, hv'⟩ := okG_parts h1'
  obtain rfl : k = k' := by omega
  obtain ⟨hi, hk⟩ := nodes_in h2
  rw [Int.toNat_natCast] at *
  exact beq_iff_eq.2 (grp_sub hv hv' hs hi hk (beq_iff_eq.1 hx))
theorem apartR_mono {n : Int} {ts us : List TieD} {x y : Int} (h : errA n ts x y = 0) (h' : errA n us x y = 0) (hs : ∀ t ∈ ts, t ∈ us) (hx : apartR n ts x y = true) : apartR n us x y = true := by
  unfold apartR at *
  rw [if_pos h] at hx
  rw [if_pos h']
  obtain ⟨h1, h2⟩ := errA_ok h
  obtain ⟨h1', _⟩ := errA_ok h'
  obtain ⟨k, rfl, _, _, _, hv⟩ := okG_parts h1
  obtain ⟨k', e, _, _, _, hv'⟩ := okG_parts h1'
  obtain rfl : k = k' := by omega
  obtain ⟨hi, hk⟩ := nodes_in h2
  rw [Int.toNat_natCast] at *
  unfold apB at *
  obtain ⟨t, ht, hc⟩ := List.any_eq_true.1 hx
  refine List.any_eq_true.2 ⟨t, hs t ht, ?_⟩
  obtain ⟨_, _, _, _, ha, hb⟩ := tieB_in (hv t ht)
  unfold cutB at *
  simp only [Bool.and_eq_true, Bool.or_eq_true, beq_iff_eq] at hc ⊢
  refine ⟨hc.1, hc.2.imp (fun ⟨p, q⟩ => ⟨grp_sub hv hv' hs ha hi p, grp_sub hv hv' hs hb hk q⟩) (fun ⟨p, q⟩ => ⟨grp_sub hv hv' hs ha hk p, grp_sub hv hv' hs hb hi q⟩)⟩
theorem mem_mrg {ts us : List TieD} {t : TieD} : t ∈ ts ++ mrgF ts us ↔ t ∈ ts ∨ t ∈ us := by
  unfold mrgF
  rw [List.mem_append, List.mem_filter]
  by_cases h : t ∈ ts <;> simp [h]
theorem mrg_len (ts us : List TieD) : (ts ++ mrgF ts us).length ≤ ts.length + us.length := by
  rw [List.length_append]
  have := List.length_filter_le (fun t => !decide (t ∈ ts)) us
  unfold mrgF
  omega
theorem mrg_self (n : Int) (ts : List TieD) (h : okG n ts = true) : mrgR n ts n ts = ⟨n, ts, 0⟩ := by
  have e : ts ++ mrgF ts ts = ts := by
    have : mrgF ts ts = [] := by
      unfold mrgF
      exact List.filter_eq_nil_iff.2 fun t ht => by simp [ht]
    rw [this, List.append_nil]
  have hl := okG_len h
  unfold mrgR
  rw [h, if_pos rfl, if_pos rfl, if_pos rfl, e, if_neg (by omega)]
theorem add_more {n : Int} {ts : List TieD} {t : TieD} {x y : Int} (h : errA n ts x y = 0) (he : (addR n ts t).er = 0) :
    addR n ts t = ⟨n, ts ++ [t], 0⟩ ∧ errA n (ts ++ [t]) x y = 0 ∧ (sameR n ts x y = true → sameR n (ts ++ [t]) x y = true) ∧ (apartR n ts x y = true → apartR n (ts ++ [t]) x y = true) := by
  obtain ⟨h1, h2⟩ := errA_ok h
  unfold addR at he ⊢
  rw [h1, if_pos rfl] at he ⊢
  cases ht : tieB t n with
  | false => rw [ht] at he; simp at he
  | true =>
    rw [ht, if_pos rfl] at he
    rw [if_pos rfl]
    by_cases hl : ts.length = 512
    · rw [if_pos hl] at he; simp at he
    · rw [if_neg hl]
      obtain ⟨k, rfl, h3, h4, h5, hv⟩ := okG_parts h1
      have hok : okG (k : Int) (ts ++ [t]) = true := okG_mk h3 h4 (by simp; omega) fun u hu => by
        rcases List.mem_append.1 hu with hu | hu
        · exact hv u hu
        · rw [List.mem_singleton.1 hu]; exact ht
      have h' := errA_of hok h2
      have hs : ∀ u ∈ ts, u ∈ ts ++ [t] := fun u hu => List.mem_append_left _ hu
      exact ⟨rfl, h', sameR_mono h h' hs, apartR_mono h h' hs⟩
theorem mrg_more {n n' : Int} {ts us : List TieD} {x y : Int} (h : errA n ts x y = 0) (hl : ts.length ≤ 40) (hl' : us.length ≤ 40) :
    (∃ e, e ≠ 0 ∧ mrgR n ts n' us = ⟨0, [], e⟩ ∧ mrgR n' us n ts = ⟨0, [], e⟩) ∨
    ∃ X Y, mrgR n ts n' us = ⟨n, X, 0⟩ ∧ mrgR n' us n ts = ⟨n, Y, 0⟩ ∧ okG n X = true ∧ okG n Y = true ∧ grpL n.toNat X = grpL n.toNat Y ∧ errA n X x y = 0 ∧ errA n Y x y = 0 ∧ apartR n X x y = apartR n Y x y ∧
      (sameR n ts x y = true → sameR n X x y = true) ∧ (apartR n ts x y = true → apartR n X x y = true) := by
  obtain ⟨h1, h2⟩ := errA_ok h
  have e1 := mrg_len ts us
  have e2 := mrg_len us ts
  unfold mrgR
  rw [h1]
  cases h1' : okG n' us with
  | false => exact .inl ⟨40, by decide, rfl, rfl⟩
  | true =>
    by_cases hnn : n = n'
    · subst hnn
      simp only [if_true]
      rw [if_neg (by omega), if_neg (by omega)]
      obtain ⟨k, rfl, h3, h4, h5, hv⟩ := okG_parts h1
      obtain ⟨k', e, _, _, _, hv'⟩ := okG_parts h1'
      obtain rfl : k = k' := by omega
      have vX : ∀ t ∈ ts ++ mrgF ts us, tieB t k = true := fun t ht => (mem_mrg.1 ht).elim (hv t) (hv' t)
      have vY : ∀ t ∈ us ++ mrgF us ts, tieB t k = true := fun t ht => (mem_mrg.1 ht).elim (hv' t) (hv t)
      have oX := okG_mk h3 h4 (by omega) vX
      have oY := okG_mk h3 h4 (by omega) vY
      have hXY : ∀ t, t ∈ ts ++ mrgF ts us ↔ t ∈ us ++ mrgF us ts := fun t => by rw [mem_mrg, mem_mrg]; exact or_comm
      have aX := errA_of oX h2
      have aY := errA_of oY h2
      have hs : ∀ t ∈ ts, t ∈ ts ++ mrgF ts us := fun t ht => List.mem_append_left _ ht
      refine .inr ⟨_, _, rfl, rfl, oX, oY, by rw [Int.toNat_natCast]; exact grp_same vX vY hXY, aX, aY, ?_, sameR_mono h aX hs, apartR_mono h aX hs⟩
      rw [Bool.eq_iff_iff]
      exact ⟨apartR_mono aX aY fun t ht => (hXY t).1 ht, apartR_mono aY aX fun t ht => (hXY t).2 ht⟩
    · refine .inl ⟨1, by decide, ?_, ?_⟩
      · simp [hnn]
      · simp [Ne.symm hnn]
end Go.Proofs.YthjeiaildabadaaGreat
/- Layer 4: ways over ties. -/
namespace Go.Proofs.YthjeiaildabadaaGreat
set_option linter.unusedSimpArgs false
set_option linter.unusedVariables false
open Go Go.RowKit

/-- The node of a tie other than the given one. -/
def othF (t : TieD) (x : Int) : Int × Bool := if x == t.a then (t.b, true) else if x == t.b then (t.a, true) else (0, false)
def cutI (t : TieD) : Int := if t.kind == 1 then 1 else 0
theorem cutI_le (t : TieD) : 0 ≤ cutI t ∧ cutI t ≤ 1 := by unfold cutI; split <;> omega
def wayV (t : TieD) : Value := .agg #[.func (.func 116) #[tieV t] #[], .int .i64 (cutI t)]
set_option maxRecDepth 100000 in
theorem other_any (t : TieD) (x : Int) (w : World) :
    Calls Tryz.prog 116 #[tieV t, .int .i64 x] w fun e w' => e = .returned (.tuple #[.int .i64 (othF t x).1, .bool (othF t x).2]) ∧ Below w.heap.size w w' := by
  unfold othF
  obtain ⟨ya, yb, yk, ys, yr⟩ := t
  simp only
  cases h1 : (x == ya) with
  | true =>
    simp only [if_true]
    go_enter Tryz.func116, Tryz.ntmps116
    simp only [tieV]
    go_wp2_with fail
    refine bodyPost_ret (v := .tuple #[.int .i64 yb, .bool true]) (by simp [results, Tryz.results116, go_sem]) rfl ?_
    exact ⟨rfl, (Below.refl _ _).alloc (Nat.le_refl _) _⟩
  | false =>
    cases h2 : (x == yb) with
    | true =>
      simp only [if_true, Bool.false_eq_true, if_false]
      go_enter Tryz.func116, Tryz.ntmps116
      simp only [tieV]
      go_wp2_with fail
      refine bodyPost_ret (v := .tuple #[.int .i64 ya, .bool true]) (by simp [results, Tryz.results116, go_sem]) rfl ?_
      exact ⟨rfl, (Below.refl _ _).alloc (Nat.le_refl _) _⟩
    | false =>
      simp only [Bool.false_eq_true, if_false]
      go_enter Tryz.func116, Tryz.ntmps116
      simp only [tieV]
      go_wp2_with fail
      refine bodyPost_ret (v := .tuple #[.int .i64 0, .bool false]) (by simp [results, Tryz.results116, go_sem]) rfl ?_
      exact ⟨rfl, (Below.refl _ _).alloc (Nat.le_refl _) _⟩
/-- Three new variables. -/
def B3 (w W : World) (x : List Value) (t : TypeId) (y : List Value) (t' : TypeId) (z : List Value) (t'' : TypeId) : Prop := Blk W w.heap.size x t ∧ Blk W (w.heap.size + 1) y t' ∧ Blk W (w.heap.size + 1 + 1) z t'' ∧ Below w.heap.size w W
theorem B3.below {w W W' : World} {x y z : List Value} {t t' t'' : TypeId} (k : B3 w W x t y t' z t'') (hb : Below W.heap.size W W') : B3 w W' x t y t' z t'' := ⟨k.1.below hb, k.2.1.below hb, k.2.2.1.below hb, k.2.2.2.trans (hb.mono k.2.2.2.size)⟩
theorem B3.new (w : World) (x y z : List Value) (t t' t'' : TypeId) : B3 w (((w.alloc (.cells x.toArray t)).alloc (.cells y.toArray t')).alloc (.cells z.toArray t'')) x t y t' z t'' := by
  have b1 := Blk.new w x t
  have b2 := Blk.new (w.alloc (.cells x.toArray t)) y t'
  have b3 := Blk.new ((w.alloc (.cells x.toArray t)).alloc (.cells y.toArray t')) z t''
  refine ⟨(b1.block (Below.heap_alloc _ _ _ (by simp))).block (Below.heap_alloc _ _ _ (by simp; omega)), ?_, ?_, (((Below.refl _ _).alloc (Nat.le_refl _) _).alloc (by simp) _).alloc (by simp; omega) _⟩
  · have := b2.block (Below.heap_alloc _ (.cells z.toArray t'') _ b2.lt)
    simpa using this
  · simpa using b3
set_option maxRecDepth 100000 in
theorem next_any (t : TieD) (c p k : Int) (w : World) (hc : 0 ≤ c ∧ c ≤ 1) (hk : 0 ≤ k ∧ k ≤ 100000) :
    Calls Tryz.prog 96 #[.agg #[.func (.func 116) #[tieV t] #[], .int .i64 c], .agg #[.int .i64 p, .int .i64 k]] w fun e w' => e = .returned (.tuple #[.agg #[.int .i64 (othF t p).1, .int .i64 (k + c)], .bool (othF t p).2]) ∧ Below w.heap.size w w' := by
  have HO : Hid (∀ W, Calls Tryz.prog 116 #[tieV t, .int .i64 p] W fun e w' => e = .returned (.tuple #[.int .i64 (othF t p).1, .bool (othF t p).2]) ∧ Below W.heap.size W w') := fun W => other_any t p W
  have hw : wrap64 (k + c) = k + c := by unfold wrap64; omega
  have HN0 := Lib.hid (B3.new w [.func (.func 116) #[tieV t] #[], .int .i64 c] [.int .i64 p, .int .i64 k] [.int .i64 0, .int .i64 0] 113 102 102)
  generalize (othF t p).1 = r at *
  generalize (othF t p).2 = v at *
  generalize tieV t = T at *
  clear hc hk
  go_enter Tryz.func96, Tryz.ntmps96
  go_wp2_with (first | (go_at_call 116; refine (HO.out _).mono ?_; rintro e w1 ⟨rfl, hb⟩; have HY := Lib.hid (HN0.out.below hb); clear hb HN0 HO; have c1 := HY.out.1.cell (i := 1) rfl; have p1 := HY.out.2.1.cell (i := 1) rfl; have d0 := HY.out.2.2.1.cell (i := 0) rfl; have d1 := HY.out.2.2.1.cell (i := 1) rfl; have f0 := HY.out.2.2.1.frozen 0; have f1 := HY.out.2.2.1.frozen 1))
  refine named (fun V => Blk V (w.heap.size + 1 + 1) [.int .i64 r, .int .i64 (k + c)] 102 ∧ Below w.heap.size w V) ⟨(HY.out.2.2.1.set_ 0 _).set_ 1 _, (HY.out.2.2.2.setCell (by show w.heap.size ≤ w.heap.size + 1 + 1; omega) _).setCell (by show w.heap.size ≤ w.heap.size + 1 + 1; omega) _⟩ ?_
  rintro V ⟨V1, V3⟩
  have e0 := V1.cell (i := 0) rfl
  have e1 := V1.cell (i := 1) rfl
  refine bodyPost_ret (v := .tuple #[.agg #[.int .i64 r, .int .i64 (k + c)], .bool v]) (by simp [results, Tryz.results96, go_sem, e0, e1]) rfl ?_
  exact ⟨rfl, V3⟩
end Go.Proofs.YthjeiaildabadaaGreat
