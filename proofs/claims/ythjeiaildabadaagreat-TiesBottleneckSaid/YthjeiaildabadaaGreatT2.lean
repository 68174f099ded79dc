/- Layer 4: Widest of the program. -/
import Derived.Test.YthjeiaildabadaaGreatT1
import Derived.Test.YthjeiaildabadaaGreatS1
namespace Go.Proofs.YthjeiaildabadaaGreat
set_option linter.unusedSimpArgs false
set_option linter.unusedVariables false
open Go Go.RowKit

def samB (k : Nat) (us : List TieD) (x y : Int) : Bool := atI (grpL k us) x == atI (grpL k us) y
theorem grpL_joins (n : Nat) (us : List TieD) : grpL n (us.filter (·.kind == 2)) = grpL n us := by
  unfold grpL
  rw [List.foldl_filter]
  congr 1
  funext l t
  unfold grpS
  split <;> simp_all
theorem sam_joins {k : Nat} {us vs : List TieD} {x y : Int} (hu : ∀ t ∈ us, tieB t k = true) (hv : ∀ t ∈ vs, tieB t k = true) (hx : x.toNat < k) (hy : y.toNat < k) (h : ∀ t ∈ us, t.kind = 2 → t ∈ vs) (hs : samB k us x y = true) : samB k vs x y = true := by
  unfold samB at *
  rw [beq_iff_eq] at *
  rw [← grpL_joins k us] at hs
  exact grp_sub (fun t ht => hu t (List.mem_filter.1 ht).1) hv (fun t ht => h t (List.mem_filter.1 ht).1 (by simpa using (List.mem_filter.1 ht).2)) hx hy hs
structure Srt (ts js : List TieD) : Prop where
  mem : ∀ t, t ∈ js ↔ t ∈ ts ∧ t.kind = 2
  ord : js.Pairwise fun s t => t.str ≤ s.str
theorem Srt.valid {ts js : List TieD} {n : Int} (h : Srt ts js) (hv : ∀ t ∈ ts, tieB t n = true) : ∀ t ∈ js, tieB t n = true := fun t ht => hv t ((h.mem t).1 ht).1
theorem Srt.found {k j : Nat} {ts js : List TieD} {x y : Int} (h : Srt ts js) (hv : ∀ t ∈ ts, tieB t k = true) (hx : x.toNat < k) (hy : y.toNat < k) (hj : j < js.length) (h0 : samB k (js.take j) x y = false) (h1 : samB k (js.take (j + 1)) x y = true) : samB k (stF ts js[j].str) x y = true ∧ samB k (stF ts (js[j].str + 1)) x y = false ∧ 1 ≤ js[j].str ∧ js[j].str ≤ 100 := by
  have hp := List.pairwise_iff_getElem.1 h.ord
  have htk : ∀ n, ∀ t ∈ js.take n, tieB t k = true := fun n t ht => h.valid hv t (List.mem_of_mem_take ht)
  refine ⟨sam_joins (htk _) (stF_valid hv) hx hy (fun t ht hk => ?_) h1, ?_, ?_⟩
  · obtain ⟨i, hi, rfl⟩ := List.mem_iff_getElem.1 ht
    rw [List.length_take] at hi
    rw [List.getElem_take]
    refine stF_mem.2 ⟨((h.mem _).1 (List.getElem_mem _)).1, ?_⟩
    by_cases e : i = j
    · subst e; exact Int.le_refl _
    · exact hp i j (by omega) hj (by omega)
  · cases hc : samB k (stF ts (js[j].str + 1)) x y with
    | false => rfl
    | true =>
      have := sam_joins (stF_valid hv) (htk j) hx hy (fun t ht hk => by
        obtain ⟨h2, h3⟩ := stF_mem.1 ht
        obtain ⟨i, hi, rfl⟩ := List.mem_iff_getElem.1 ((h.mem t).2 ⟨h2, hk⟩)
        have hij : i < j := by
          rcases Nat.lt_or_ge i j with h4 | h4
          · exact h4
          · exfalso
            by_cases e : i = j
            · subst e; omega
            · have := hp j i hj hi (by omega); omega
        exact List.mem_iff_getElem.2 ⟨i, by rw [List.length_take]; omega, by rw [List.getElem_take]⟩) hc
      rw [h0] at this; cases this
  · have hb := h.valid hv _ (List.getElem_mem hj)
    unfold tieB ftB at hb
    simp only [Bool.and_eq_true, decide_eq_true_eq] at hb
    omega
theorem Srt.none {k : Nat} {ts js : List TieD} {x y : Int} (h : Srt ts js) (hv : ∀ t ∈ ts, tieB t k = true) (hx : x.toNat < k) (hy : y.toNat < k) (h0 : samB k js x y = false) : samB k ts x y = false := by
  cases hc : samB k ts x y with
  | false => rfl
  | true =>
    have := sam_joins hv (h.valid hv) hx hy (fun t ht hk => (h.mem t).2 ⟨ht, hk⟩) hc
    rw [h0] at this; cases this
theorem sam_nil {k p z : Nat} (hp : p < k) (hz : z < k) (h : p ≠ z) : samB k [] p z = false := by
  unfold samB
  have e : ∀ x, x < k → atI (grpL k []) x = x := fun x hx => by
    have h1 := atI_some (l := grpL k []) (i := (x : Int)) (by rw [grpL_len]; simpa using hx)
    unfold grpL at h1 ⊢
    rw [List.foldl_nil] at h1 ⊢
    rw [Int.toNat_natCast] at h1
    unfold intN at h1 ⊢
    rw [List.getElem?_map, List.getElem?_range hx] at h1
    simpa using h1.symm
  rw [e p hp, e z hz]
  simp; omega
/-- What Widest answers. -/
def WdA (k : Nat) (ts : List TieD) (p z : Nat) (e : Ending) : Prop := (p = z ∧ e = .returned (.tuple #[.int .i64 101, .bool true, .int .i64 0])) ∨ (p ≠ z ∧ samB k ts p z = false ∧ e = .returned (.tuple #[.int .i64 0, .bool false, .int .i64 0])) ∨ (p ≠ z ∧ ∃ W : Int, 1 ≤ W ∧ W ≤ 100 ∧ samB k (stF ts W) p z = true ∧ samB k (stF ts (W + 1)) p z = false ∧ e = .returned (.tuple #[.int .i64 W, .bool true, .int .i64 0]))
/-- What is asked of the sort. -/
def SortOk : Prop := ∀ (W : World) (base : Nat) (r : Option Addr) (cap : Nat) (l : List TieD), l.length ≤ 1000 → base ≤ W.heap.size → W.ownsRow base 54 5 (.slice r l.length cap) l.length (tvL l) → Calls Tryz.prog 52 #[.slice r l.length cap, .func (.func 53) #[] #[]] W fun e w' => (∃ u, e = .returned u) ∧ (∃ l', l'.Perm l ∧ (l'.Pairwise fun s t => t.str ≤ s.str) ∧ TiesAt w' r l') ∧ Below base W w'
theorem field_gr (n : Int) (a : Option Addr) (len cap : Nat) (w : World) : (Instr.field 24 (.agg #[.int .i64 n, .slice a len cap]) 1).run Tryz.prog w = .ok (.slice a len cap) w := by
  kernel_rfl
attribute [local go_sem] field_gr
set_option maxRecDepth 100000 in
set_option maxHeartbeats 8000000 in
theorem widest_any (HSORT : SortOk) (k p z : Nat) (a : Option Addr) (cap : Nat) (ts : List TieD) (w : World) (h0 : errA k ts p z = 0) (hs : TiesAt w a ts) :
    Calls Tryz.prog 14 #[gV k a ts.length cap, .int .i64 p, .int .i64 z] w fun e w' => WdA k ts p z e ∧ Below w.heap.size w w' := by
  obtain ⟨hok, hxy⟩ := errA_ok h0
  obtain ⟨k', hk', hk1, hk2, hl, hv⟩ := okG_parts hok
  obtain rfl : k = k' := by omega
  unfold ftB at hxy
  simp only [Bool.and_eq_true, decide_eq_true_eq] at hxy
  have hp : p < k := by omega
  have hz : z < k := by omega
  have HP : Hid (∀ W, Below w.heap.size w W → Calls Tryz.prog 50 #[gV k a ts.length cap, .int .i64 p, .int .i64 z] W fun e w' => e = .returned (.int .i64 0) ∧ Below W.heap.size W w') := fun W hb => by
    have h := tPair_any k a cap ts p z W (by omega) (hs.below hb); rw [h0] at h; exact h
  have HJO : Hid (∀ W, Below w.heap.size w W → Calls Tryz.prog 51 #[.agg #[.int .i64 k, .slice a ts.length cap], .func (.func 41) #[] #[]] W fun e w' => ∃ B r c, e = .returned (.agg #[.int .i64 k, .slice r (ts.filter (·.kind == 2)).length c]) ∧ W.heap.size ≤ B ∧ B ≤ w'.heap.size ∧ w'.ownsRow B 54 5 (.slice r (ts.filter (·.kind == 2)).length c) (ts.filter (·.kind == 2)).length (tvL (ts.filter (·.kind == 2))) ∧ Below W.heap.size W w') := fun W hb => joins_any k a cap ts W (by omega) (hs.below hb)
  have HSRT : Hid (∀ l', l'.Perm (ts.filter (·.kind == 2)) → (l'.Pairwise fun s t => t.str ≤ s.str) → Srt ts l' ∧ l'.length = (ts.filter (·.kind == 2)).length) := fun l' h1 h2 => ⟨⟨fun t => by rw [h1.mem_iff, List.mem_filter]; simp, h2⟩, h1.length_eq⟩
  have hjl : (ts.filter (·.kind == 2)).length ≤ 512 := Nat.le_trans (List.length_filter_le _ _) hl
  have HSO : Hid (∀ W base r c, base ≤ W.heap.size → W.ownsRow base 54 5 (.slice r (ts.filter (·.kind == 2)).length c) (ts.filter (·.kind == 2)).length (tvL (ts.filter (·.kind == 2))) → Calls Tryz.prog 52 #[.slice r (ts.filter (·.kind == 2)).length c, .func (.func 53) #[] #[]] W fun e w' => (∃ u, e = .returned u) ∧ (∃ l', l'.Perm (ts.filter (·.kind == 2)) ∧ (l'.Pairwise fun s t => t.str ≤ s.str) ∧ TiesAt w' r l') ∧ Below base W w') := fun W base r c h1 h2 => HSORT W base r c _ (by omega) h1 h2
  have HFO : Hid (∀ js j, Srt ts js → (hj : j < js.length) → samB k (js.take j) p z = false → samB k (js.take (j + 1)) p z = true → samB k (stF ts js[j].str) p z = true ∧ samB k (stF ts (js[j].str + 1)) p z = false ∧ 1 ≤ js[j].str ∧ js[j].str ≤ 100) := fun js j h1 hj h2 h3 => h1.found hv (by simpa using hp) (by simpa using hz) hj h2 h3
  have HNO : Hid (∀ js, Srt ts js → samB k js p z = false → samB k ts p z = false) := fun js h1 h2 => h1.none hv (by simpa using hp) (by simpa using hz) h2
  have HVJ : Hid (∀ js, Srt ts js → ∀ t ∈ js, tieB t k = true ∧ t.kind = 2) := fun js h t ht => ⟨h.valid hv t ht, ((h.mem t).1 ht).2⟩
  have HSI : Hid (∀ W, Calls Tryz.prog 40 #[.int .i64 k] W fun e w' => e = .returned (.slice (some ⟨W.heap.size, 0, none⟩) k k) ∧ NB w' W.heap.size (grpL k []) ∧ Below W.heap.size W w') := fun W => (single_any k W (by omega)).mono fun e w' ⟨h1, h2, h3, _⟩ => ⟨h1, h2, h3⟩
  have HKK : Hid (k ≤ 32 ∧ p < k ∧ z < k) := ⟨hk2, hp, hz⟩
  obtain ⟨q, hq⟩ : ∃ q, q = (ts.filter (·.kind == 2)).length := ⟨_, rfl⟩
  rw [← hq] at HJO HSRT HSO hjl
  obtain ⟨m, hm⟩ : ∃ m, m = ts.length := ⟨_, rfl⟩
  rw [← hm] at HP HJO ⊢
  have FB := Lib.hid (FA.new w [.int .i64 k, .slice a m cap])
  clear h0 hs hok hxy hk' hk1 hk2 hl hv hm hq hp hz
  simp only [gV] at HP ⊢
  by_cases hpz : p = z
  · subst hpz
    go_enter Tryz.func14, Tryz.ntmps14
    go_wp2_with (first | (go_at_call 50; go_loud (refine (HP.out _ FB.out.2).mono ?_; rintro e w1 ⟨rfl, hb⟩; clear HP; replace FB := Lib.hid (FB.out.below hb); clear hb)))
    refine bodyPost_ret (v := .tuple #[.int .i64 101, .bool true, .int .i64 0]) (by simp [results, Tryz.results14, go_sem]) rfl ?_
    exact ⟨.inl ⟨rfl, rfl⟩, FB.out.2⟩
  · have t1 : ((p : Int) == (z : Int)) = false := by simp; omega
    have t2 : (p == z) = false := by simp [hpz]
    have HPZ := Lib.hid hpz
    clear hpz
    go_enter Tryz.func14, Tryz.ntmps14
    go_upto_region 6 with (first | (go_at_call 50; go_loud (refine (HP.out _ FB.out.2).mono ?_; rintro e w1 ⟨rfl, hb⟩; clear HP; replace FB := Lib.hid (FB.out.below hb); clear hb)))
    clear t1 t2
    have FB1 := FB
    have HB1 := Lib.hid FB.out.2
    have c0 := FB.out.1.cell (i := 0) rfl
    have c1 := FB.out.1.cell (i := 1) rfl
    go_upto_region 7 with (first | (go_at_call 51; go_loud (refine (HJO.out _ FB.out.2).mono ?_; rintro e w2 ⟨B, r, c, rfl, hB1, hB2, ht, hb⟩; have HBB := Lib.hid (And.intro hB1 hB2); clear hB1 hB2; clear HJO c0 c1; have HT := Lib.hid ht; have HB2 := Lib.hid hb; replace FB := Lib.hid (FB.out.below hb); clear hb ht)))
    have HX2 : Hid (Below w.heap.size w w1) := HB1.out
    go_upto_region 8 with (first | (go_at_call 52; go_loud (refine (HSO.out _ _ _ _ HBB.out.2 HT.out).mono ?_; rintro e w3 ⟨⟨u, rfl⟩, ⟨js, hj1, hj2, hj3⟩, hb⟩; clear HSO HT; obtain ⟨hj4, hj5⟩ := HSRT.out js hj1 hj2; have HJ := Lib.hid hj3; have HR := Lib.hid hj4; have HJL := Lib.hid hj5; clear HSRT hj1 hj2 hj3 hj4 hj5; replace FB := Lib.hid (FB1.out.below (HB2.out.trans (hb.mono HBB.out.1))); clear hb HB2 FB1 HBB)))
    have d0 := FB.out.1.cell (i := 0) rfl
    have HJ0 := Lib.hid (Below.refl w3.heap.size w3)
    go_upto_region 9 with (first | (go_at_call 40; go_loud (refine (HSI.out _).mono ?_; rintro e w4 ⟨rfl, hn, hb⟩; clear HSI d0; have HN := Lib.hid hn; have HB4 := Lib.hid hb; clear hb hn)))
    clear HJ0
    have FBW := Lib.hid FB.out.2
    have HN0 : Hid (samB k (js.take 0) p z = false) := by
      have h1 := HKK.out
      have h2 := HPZ.out
      rw [Hid, List.take_zero]
      exact sam_nil h1.2.1 h1.2.2 h2
    generalize hg : w3.heap.size = g at HN HB4 ⊢
    have HG := Lib.hid hg
    clear FB hg HX2
    go_wp2_with fail
    go_loopg [13, 34] q (fun gk t13 t34 wr => ∃ j : Nat, j + gk = q ∧ t34 = .int .i64 j ∧ Hid (NB wr g (grpL k (js.take j))) ∧ Hid (samB k (js.take j) p z = false) ∧ Hid (Below g w3 wr))
    case atStart => exact ⟨0, by omega, rfl, HN, HN0, HB4⟩
    case round =>
      obtain ⟨j, hjq, rfl, HM, HS0, HB⟩ := hrel
      clear HN HN0 HB4
      have HBW : Hid (Below w.heap.size w wr) := FBW.out.trans (HB.out.mono (by rw [← HG.out]; exact FBW.out.size))
      by_cases hlt : j < q
      · have hkl : j < js.length := by rw [HJL.out]; exact hlt
        obtain ⟨lb, lo, rfl, hlb, c0, c1, c2, c3, c4⟩ := (HJ.out.below (by rw [HG.out]; exact HB.out)).at hkl
        have HF := Lib.hid fun h => HFO.out js j HR.out hkl HS0.out h
        have HST := Lib.hid (grpL_step k js j hkl)
        obtain ⟨hvk, hk2⟩ := HVJ.out js HR.out js[j] (List.getElem_mem hkl)
        obtain ⟨y, hy⟩ : ∃ y, y = js[j] := ⟨_, rfl⟩
        rw [← hy] at hvk hk2 HF HST c0 c1 c2 c3 c4
        obtain ⟨ha0, ha1, hb0, hb1, ha2, hb2⟩ := tieB_in hvk
        obtain ⟨l, hl0⟩ : ∃ l, l = grpL k (js.take j) := ⟨_, rfl⟩
        have hll : l.length = k := by rw [hl0]; exact grpL_len k _
        rw [← hl0] at HST HM
        obtain ⟨ya, yb, yk, ys, yr⟩ := y
        simp only at c0 c1 c2 c3 c4 ha0 ha1 hb0 hb1 ha2 hb2 hk2 HF
        obtain ⟨xa, rfl⟩ := Int.eq_ofNat_of_zero_le ha0
        obtain ⟨xb, rfl⟩ := Int.eq_ofNat_of_zero_le hb0
        have hpx := atI_some (l := l) (i := xa) (by rw [hll]; exact ha2)
        have hpy := atI_some (l := l) (i := xb) (by rw [hll]; exact hb2)
        have HST2 : Hid (grpL k (js.take (j + 1)) = uniL l (min (atI l xa) (atI l xb)) (max (atI l xa) (atI l xb))) := by rw [Hid, HST.out, grpS]; simp [hk2]
        obtain ⟨l2, hl2⟩ : ∃ l2, l2 = grpL k (js.take (j + 1)) := ⟨_, rfl⟩
        have hl2n : l2.length = k := by rw [hl2]; exact grpL_len k _
        have HU : Hid (∀ W, NB W g l → Calls Tryz.prog 42 #[.slice (some ⟨g, 0, none⟩) k k, .int .i64 xa, .int .i64 xb] W fun e w' => (∃ r, e = .returned (.bool r)) ∧ NB w' g l2 ∧ Only g W w' ∧ (∀ B, B ≤ g → Below B W w')) := fun W hW => by
          have h1 := HKK.out.1
          have := unite_any g l xa xb _ _ W (by omega) hW hpx hpy
          rw [hll] at this
          rw [hl2, HST2.out]
          exact this
        obtain ⟨v, hv⟩ : ∃ v, v = samB k (js.take (j + 1)) p z := ⟨_, rfl⟩
        have HJD : Hid (∀ W, NB W g l2 → Calls Tryz.prog 45 #[.slice (some ⟨g, 0, none⟩) k k, .int .i64 p, .int .i64 z] W fun e w' => e = .returned (.bool v) ∧ Below W.heap.size W w') := fun W hW => by
          have h1 := HKK.out
          have := joined_any g l2 p z W (by omega) hW (by omega) (by omega)
          rw [hl2n] at this
          rw [hv, samB, ← hl2]
          exact this
        rw [← hv] at HF
        have HS1 := Lib.hid hv
        have HL2 := Lib.hid hl2
        have HLT := Lib.hid hlt
        have HSZ : Hid (g < wr.heap.size) := HM.out.lt
        clear hkl hy hl0 hvk hk2 hpx hpy HST HST2 hll hl2 hl2n hv HFO HNO HVJ HKK hlb ha0 ha1 hb0 hb1 ha2 hb2
        go_upto_region 12 with (fail)
        have HC := Lib.hid (TieAt.new wr ⟨xa, xb, yk, ys, yr⟩ 54)
        have HA : Hid (Below wr.heap.size wr (wr.alloc (.cells #[.int .i64 xa, .int .i64 xb, .int .i64 yk, .int .i64 ys, .int .i64 yr] 54))) := (Below.refl _ _).alloc (Nat.le_refl _) _
        obtain ⟨_, d0, d1, d2, d3, d4⟩ := HC.out
        simp only at d0 d1 d2 d3 d4
        clear c0 c1 c2 c3 c4
        go_upto_region 13 with (first | (go_at_call 42; go_loud (refine (HU.out _ (HM.out.block (HA.out.block _ HM.out.lt))).mono ?_; rintro e w5 ⟨⟨ru, rfl⟩, hn, ho, hb⟩; have HN2 := Lib.hid hn; have HO2 := Lib.hid ho; have HB2 := Lib.hid (hb g (Nat.le_refl _)); clear HU d0 d1 d2 d3 d4 hn ho hb)))
        have HC2 : Hid (TieAt w5 wr.heap.size ⟨xa, xb, yk, ys, yr⟩) := HC.out.only HO2.out (by have := HSZ.out; omega)
        clear HC HO2
        have HBR : Hid (Below g w3 w5) := HB.out.trans ((HA.out.mono (Nat.le_of_lt HSZ.out)).trans HB2.out)
        have HBW5 : Hid (Below w.heap.size w w5) := FBW.out.trans (HBR.out.mono (by rw [← HG.out]; exact FBW.out.size))
        cases v with
        | true =>
          go_upto_region 14 with (first | (go_at_call 45; go_loud (refine (HJD.out _ HN2.out).mono ?_; rintro e w6 ⟨rfl, hb⟩; clear HJD; have HB6 := Lib.hid hb; clear hb)))
          obtain ⟨_, d0, d1, d2, d3, d4⟩ := HC2.out.below HB6.out
          simp only at d0 d1 d2 d3 d4
          go_wp2_with fail
          refine bodyPost_ret (v := .tuple #[.int .i64 ys, .bool true, .int .i64 0]) (by simp [results, Tryz.results14, go_sem]) rfl ?_
          have h1 := HF.out (by trivial)
          exact ⟨.inr (.inr ⟨HPZ.out, ys, h1.2.2.1, h1.2.2.2, h1.1, h1.2.1, rfl⟩), HBW5.out.trans (HB6.out.mono HBW5.out.size)⟩
        | false =>
          go_wp2_with (first | (go_at_call 45; go_loud (refine (HJD.out _ HN2.out).mono ?_; rintro e w6 ⟨rfl, hb⟩; clear HJD; have HB6 := Lib.hid hb; clear hb)))
          go_roundg (gk - 1)
          case measure => have := HLT.out; omega
          case rel =>
            have h1 := HBR.out.size
            have h2 := HSZ.out
            have h3 := HN2.out.lt
            exact ⟨j + 1, by have := HLT.out; omega, by simp, by rw [← HL2.out]; exact HN2.out.block (HB6.out.block _ h3), HS1.out.symm, HBR.out.trans (HB6.out.mono (Nat.le_of_lt h3))⟩
      · have e : j = q := by omega
        subst e
        have HE : Hid (samB k ts p z = false) := by
          have h1 := HS0.out
          rw [List.take_of_length_le (by rw [HJL.out]; exact Nat.le_refl _)] at h1
          exact HNO.out js HR.out h1
        clear HFO HNO HVJ
        go_wp2_with fail
        refine bodyPost_ret (v := .tuple #[.int .i64 0, .bool false, .int .i64 0]) (by simp [results, Tryz.results14, go_sem]) rfl ?_
        exact ⟨.inr (.inl ⟨HPZ.out, HE.out, rfl⟩), HBW.out⟩
end Go.Proofs.YthjeiaildabadaaGreat
