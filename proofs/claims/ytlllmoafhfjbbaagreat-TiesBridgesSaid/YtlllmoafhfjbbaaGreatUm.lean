/- Groups of nodes that ties join: plain mathematics. -/
import Derived.Test.YtlllmoafhfjbbaaGreatZm
namespace Go.Proofs.YtlllmoafhfjbbaaGreat
set_option linter.unusedSimpArgs false
set_option linter.unusedVariables false

/-- A tie. -/
structure TieD where
  a : Int
  b : Int
  kind : Int
  str : Int
  src : Int
def ftB (n lo hi : Int) : Bool := decide (lo ≤ n) && decide (n ≤ hi)
def tieB (t : TieD) (n : Int) : Bool := ftB t.a 0 (n - 1) && ftB t.b 0 (n - 1) && !(t.a == t.b) && (t.kind == 2 || t.kind == 1) && ftB t.str 1 100 && ftB t.src 0 4095
theorem tieB_in {t : TieD} {n : Nat} (h : tieB t n = true) : 0 ≤ t.a ∧ t.a < n ∧ 0 ≤ t.b ∧ t.b < n ∧ t.a.toNat < n ∧ t.b.toNat < n := by
  unfold tieB ftB at h
  simp only [Bool.and_eq_true, decide_eq_true_eq] at h
  omega
def joinsT (ts : List TieD) : List (Nat × Nat) := (ts.filter (·.kind == 2)).map fun t => (t.a.toNat, t.b.toNat)
theorem joinsT_snoc (ts : List TieD) (t : TieD) : joinsT (ts ++ [t]) = joinsT ts ++ if t.kind == 2 then [(t.a.toNat, t.b.toNat)] else [] := by
  unfold joinsT
  rw [List.filter_append, List.map_append]
  congr 1
  rw [List.filter_cons]
  split <;> rfl
theorem tsnoc_ind {P : List TieD → Prop} (h0 : P []) (h1 : ∀ l x, P l → P (l ++ [x])) : ∀ l, P l := fun l => by
  rw [← List.reverse_reverse l]
  induction l.reverse with
  | nil => exact h0
  | cons x l ih => rw [List.reverse_cons]; exact h1 _ _ ih
def atI (l : List Int) (i : Int) : Int := (l[i.toNat]?).getD 0
theorem atI_some {l : List Int} {i : Int} (h : i.toNat < l.length) : l[i.toNat]? = some (atI l i) := by
  unfold atI; rw [List.getElem?_eq_getElem h]; rfl
def grpS (l : List Int) (t : TieD) : List Int := if t.kind == 2 then uniL l (min (atI l t.a) (atI l t.b)) (max (atI l t.a) (atI l t.b)) else l
def grpL (n : Nat) (ts : List TieD) : List Int := ts.foldl grpS (intN (List.range n))
theorem grpL_snoc (n : Nat) (ts : List TieD) (t : TieD) : grpL n (ts ++ [t]) = grpS (grpL n ts) t := by unfold grpL; rw [List.foldl_append]; rfl
theorem grpL_step (n : Nat) (ts : List TieD) (k : Nat) (hk : k < ts.length) : grpL n (ts.take (k + 1)) = grpS (grpL n (ts.take k)) ts[k] := by
  rw [← List.take_append_getElem hk, grpL_snoc]
theorem uniL_len (l : List Int) (lo hi : Int) : (uniL l lo hi).length = l.length := by unfold uniL; rw [List.length_map]
theorem grpL_len (n : Nat) : ∀ ts, (grpL n ts).length = n := tsnoc_ind (P := fun ts => (grpL n ts).length = n) (by unfold grpL; rw [List.foldl_nil, intN_len, List.length_range]) fun ts t ih => by
  rw [grpL_snoc]; unfold grpS
  split
  · rw [uniL_len]; exact ih
  · exact ih
theorem grp_least (n : Nat) : ∀ ts : List TieD, (∀ t ∈ ts, tieB t n = true) → Least n (Eqv (TieR (joinsT ts))) (grpL n ts) :=
  tsnoc_ind (P := fun ts => (∀ t ∈ ts, tieB t n = true) → Least n (Eqv (TieR (joinsT ts))) (grpL n ts)) (fun _ => Least.start n) fun ts t ih h => by
    have h1 := ih fun t ht => h t (List.mem_append_left _ ht)
    have hl := grpL_len n ts
    rw [joinsT_snoc, grpL_snoc]
    unfold grpS
    split
    · obtain ⟨_, _, _, _, ha, hb⟩ := tieB_in (h t (by simp))
      exact h1.unite (atI_some (by rw [hl]; exact ha)) (atI_some (by rw [hl]; exact hb))
    · rw [List.append_nil]; exact h1
theorem grp_val {n : Nat} {ts : List TieD} (h : ∀ t ∈ ts, tieB t n = true) {i : Nat} {v : Int} (hv : (grpL n ts)[i]? = some v) : 0 ≤ v ∧ v ≤ i := by
  obtain ⟨h1, h2, _⟩ := (grp_least n ts h).cls i v hv
  exact ⟨h1, h2⟩
/-! ### The specification's: both nodes of a join get the lesser one of what they have, again and again -/
def sumT : List Int → Nat
  | [] => 0
  | x :: l => x.toNat + sumT l
theorem sumT_set : ∀ (l : List Int) (i : Nat) (x v : Int), l[i]? = some x → sumT (l.set i v) + x.toNat = sumT l + v.toNat
  | [], i, x, v, h => by simp at h
  | y :: l, 0, x, v, h => by simp at h; subst h; simp [sumT]; omega
  | y :: l, i + 1, x, v, h => by
    have := sumT_set l i x v (by simpa using h)
    simp [sumT]; omega
def refS (p : List Int × Bool) (t : TieD) : List Int × Bool :=
  if t.kind == 2 && !(atI p.1 t.a == atI p.1 t.b) then ((p.1.set t.a.toNat (min (atI p.1 t.a) (atI p.1 t.b))).set t.b.toNat (min (atI p.1 t.a) (atI p.1 t.b)), true) else p
def refP (l : List Int) (ts : List TieD) : List Int × Bool := ts.foldl refS (l, false)
theorem refP_snoc (l : List Int) (ts : List TieD) (t : TieD) : refP l (ts ++ [t]) = refS (refP l ts) t := by unfold refP; rw [List.foldl_append]; rfl
theorem refP_step (l : List Int) (ts : List TieD) (k : Nat) (hk : k < ts.length) : refP l (ts.take (k + 1)) = refS (refP l (ts.take k)) ts[k] := by
  rw [← List.take_append_getElem hk, refP_snoc]
theorem refP_len (l : List Int) : ∀ ts, (refP l ts).1.length = l.length := tsnoc_ind (P := fun ts => (refP l ts).1.length = l.length) rfl fun ts t ih => by
  rw [refP_snoc]; unfold refS
  split
  · rw [List.length_set, List.length_set]; exact ih
  · exact ih
theorem Way.putE {n : Nat} {R : Nat → Nat → Prop} {l : List Int} (h : Way n (Eqv R) l) {i : Nat} {x v : Int} (hx : l[i]? = some x) (hv : 0 ≤ v ∧ v ≤ x) (he : Eqv R i v.toNat) : Way n (Eqv R) (l.set i v) := by
  refine ⟨by rw [List.length_set]; exact h.len, fun j u hu => ?_⟩
  rw [List.getElem?_set] at hu
  split at hu
  · rename_i hij
    subst hij
    split at hu
    · injection hu with hu
      subst hu
      obtain ⟨h1, h2, h3⟩ := h.cls i x hx
      exact ⟨hv.1, by omega, he⟩
    · cases hu
  · exact h.cls j u hu
structure PassI (n : Nat) (T : List (Nat × Nat)) (l : List Int) (ts : List TieD) (p : List Int × Bool) : Prop where
  way : Way n (Eqv (TieR T)) p.1
  no : p.2 = false → p.1 = l ∧ ∀ t ∈ ts, t.kind = 2 → l[t.a.toNat]? = l[t.b.toNat]?
  yes : p.2 = true → sumT p.1 < sumT l
theorem refP_inv {n : Nat} {T : List (Nat × Nat)} {l : List Int} (hw : Way n (Eqv (TieR T)) l) : ∀ ts : List TieD, (∀ t ∈ ts, tieB t n = true) → (∀ x ∈ joinsT ts, x ∈ T) → PassI n T l ts (refP l ts) :=
  tsnoc_ind (P := fun ts => (∀ t ∈ ts, tieB t n = true) → (∀ x ∈ joinsT ts, x ∈ T) → PassI n T l ts (refP l ts)) (fun _ _ => ⟨hw, fun _ => ⟨rfl, fun t h => by cases h⟩, fun h => by cases h⟩) fun ts t ih hv hT => by
    have I := ih (fun t ht => hv t (List.mem_append_left _ ht)) (fun x hx => hT x (by rw [joinsT_snoc]; exact List.mem_append_left _ hx))
    obtain ⟨_, _, _, _, ha, hb⟩ := tieB_in (hv t (by simp))
    have hab : t.a ≠ t.b := by
      have := hv t (by simp)
      unfold tieB at this
      simp only [Bool.and_eq_true, Bool.not_eq_true', beq_eq_false_iff_ne] at this
      exact this.1.1.1.2
    rw [refP_snoc]
    have hlen := I.way.len
    have ea := atI_some (l := (refP l ts).1) (i := t.a) (by rw [hlen]; exact ha)
    have eb := atI_some (l := (refP l ts).1) (i := t.b) (by rw [hlen]; exact hb)
    unfold refS
    split
    · rename_i hc
      simp only [Bool.and_eq_true, beq_iff_eq, Bool.not_eq_true', beq_eq_false_iff_ne] at hc
      obtain ⟨hk, hne⟩ := hc
      have hm : (t.a.toNat, t.b.toNat) ∈ T := hT _ (by rw [joinsT_snoc, hk]; simp)
      generalize hx : atI (refP l ts).1 t.a = x at *
      generalize hy : atI (refP l ts).1 t.b = y at *
      have er : Eqv (TieR T) t.a.toNat t.b.toNat := .base hm
      obtain ⟨x0, x1, x2⟩ := I.way.cls _ _ ea
      obtain ⟨y0, y1, y2⟩ := I.way.cls _ _ eb
      have hmin : Eqv (TieR T) t.a.toNat (min x y).toNat := by
        rcases Int.le_total x y with hle | hle
        · rw [Int.min_eq_left hle]; exact x2
        · rw [Int.min_eq_right hle]; exact er.trans y2
      have w1 := I.way.putE ea (v := min x y) (by omega) hmin
      have eb' : ((refP l ts).1.set t.a.toNat (min x y))[t.b.toNat]? = some y := by
        rw [List.getElem?_set, if_neg (by omega)]; exact eb
      have s1 := sumT_set _ _ _ (min x y) ea
      have s2 := sumT_set _ _ _ (min x y) eb'
      refine ⟨w1.putE eb' (by omega) (er.symm.trans hmin), fun h => (by cases h), fun _ => ?_⟩
      have hle : sumT (refP l ts).1 ≤ sumT l := by
        cases hf : (refP l ts).2 with
        | true => exact Nat.le_of_lt (I.yes hf)
        | false => rw [(I.no hf).1]; exact Nat.le_refl _
      simp only
      omega
    · rename_i hc
      refine ⟨I.way, fun hf => ⟨(I.no hf).1, fun u hu hk => ?_⟩, I.yes⟩
      rw [List.mem_append, List.mem_singleton] at hu
      rcases hu with hu | rfl
      · exact (I.no hf).2 u hu hk
      · rw [(I.no hf).1] at ea eb hc
        rw [hk] at hc
        simp only [beq_self_eq_true, Bool.true_and, Bool.not_eq_true', Bool.not_eq_false, beq_iff_eq] at hc
        rw [ea, eb, hc]
theorem ref_done {n : Nat} {l : List Int} {ts : List TieD} (hv : ∀ t ∈ ts, tieB t n = true) (hw : Way n (Eqv (TieR (joinsT ts))) l) (hs : ∀ t ∈ ts, t.kind = 2 → l[t.a.toNat]? = l[t.b.toNat]?) : l = grpL n ts := by
  refine (hw.done fun i k hr => ?_).uniq (grp_least n ts hv)
  unfold TieR joinsT at hr
  obtain ⟨t, ht, he⟩ := List.mem_map.1 hr
  obtain ⟨ht, hk⟩ := List.mem_filter.1 ht
  injection he with h1 h2
  subst h1; subst h2
  exact hs t ht (by simpa using hk)
/-! ### Apart -/
def cutB (l : List Int) (a b : Int) (t : TieD) : Bool := t.kind == 1 && ((atI l t.a == atI l a && atI l t.b == atI l b) || (atI l t.a == atI l b && atI l t.b == atI l a))
def apB (l : List Int) (ts : List TieD) (a b : Int) : Bool := ts.any (cutB l a b)
end Go.Proofs.YtlllmoafhfjbbaaGreat
