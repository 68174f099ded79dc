/- For all sets, the laws of a distributive lattice, of sizes and of both orders hold: the law BitsLattice returns true. Conditions: the listed variables of Go's library hold what their text lays. -/
import Derived.Test.YtfeknabddcohoaaDoorQe
import Derived.Test.YtfeknabddcohoaaDoorQf
import Derived.Deep.Cut
namespace Go.Proofs.YtfeknabddcohoaaDoor
set_option linter.unusedSimpArgs false
set_option linter.unusedVariables false
open Go Go.RowKit
attribute [local go_sem] equalIn_words setV

theorem add_small (t : TypeId) (x y : Operand) (a b s : Int) (h : a + b = s) (hs : -9223372036854775808 ≤ s ∧ s < 9223372036854775808) (w : World) :
    (do eqGuard .add t x y (.int .i64 a) (.int .i64 b); binOp .add t (.int .i64 a) (.int .i64 b) : Sem Value).run Tryd.prog w = .ok (.int .i64 s) w := by
  subst h
  have e := IntWalk.i64_in (a + b) (by omega)
  simp [go_sem]
  exact e
theorem below_new3 (w : World) (o o' o'' : Obj) : Below w.heap.size w (((w.alloc o).alloc o').alloc o'') := (below_new2 w o o').alloc (by simp; omega) _
set_option maxRecDepth 100000 in
set_option maxHeartbeats 4000000 in
theorem bitsLattice_any (hsane : SaneOk) (a b c : Nat) (w : World) (hg : Gl w) (ha : a < 2 ^ 256) (hb : b < 2 ^ 256) (hc : c < 2 ^ 256) :
    Calls Tryd.prog 9 #[setV a, setV b, setV c] w fun e w' => e = .returned (.bool true) ∧ Below w.heap.size w w' := by
  have HS : Hid SaneOk := hsane
  have HG := Lib.hid hg
  clear hg hsane
  obtain ⟨U, hU⟩ : ∃ u, u = a ||| b := ⟨_, rfl⟩
  obtain ⟨I, hI⟩ : ∃ u, u = a &&& b := ⟨_, rfl⟩
  obtain ⟨X, hX⟩ : ∃ u, u = a ||| b ||| c := ⟨_, rfl⟩
  obtain ⟨Y, hY⟩ : ∃ u, u = b ||| c := ⟨_, rfl⟩
  obtain ⟨Z, hZ⟩ : ∃ u, u = a &&& b &&& c := ⟨_, rfl⟩
  obtain ⟨Y2, hY2⟩ : ∃ u, u = b &&& c := ⟨_, rfl⟩
  obtain ⟨P, hP⟩ : ∃ u, u = (a ||| b) &&& c := ⟨_, rfl⟩
  obtain ⟨Q1, hQ1⟩ : ∃ u, u = a &&& c := ⟨_, rfl⟩
  obtain ⟨R, hR⟩ : ∃ u, u = (a &&& b) ||| c := ⟨_, rfl⟩
  obtain ⟨S1, hS1⟩ : ∃ u, u = a ||| c := ⟨_, rfl⟩
  obtain ⟨D, hD⟩ : ∃ u, u = diff a b := ⟨_, rfl⟩
  obtain ⟨su, hsu⟩ : ∃ u, u = card (a ||| b) := ⟨_, rfl⟩
  obtain ⟨si, hsi⟩ : ∃ u, u = card (a &&& b) := ⟨_, rfl⟩
  obtain ⟨sa, hsa⟩ : ∃ u, u = card a := ⟨_, rfl⟩
  obtain ⟨sb, hsb⟩ : ∃ u, u = card b := ⟨_, rfl⟩
  obtain ⟨sd, hsd⟩ : ∃ u, u = card (diff a b) := ⟨_, rfl⟩
  obtain ⟨p, hp⟩ : ∃ u, u = eqS (diff a b) 0 := ⟨_, rfl⟩
  obtain ⟨m, hm⟩ : ∃ u, u = !eqS (a &&& b) 0 := ⟨_, rfl⟩
  obtain ⟨x, hx⟩ : ∃ u, u = cmpS a b := ⟨_, rfl⟩
  obtain ⟨y, hy⟩ : ∃ u, u = cmpS b c := ⟨_, rfl⟩
  obtain ⟨z, hz⟩ : ∃ u, u = cmpS a c := ⟨_, rfl⟩
  have kab : Hid (∀ w, Calls Tryd.prog 31 #[setV a, setV b] w fun e w' => e = .returned (setV U) ∧ Below w.heap.size w w') := fun w => by
    have h := union_any a b w
    have e : a ||| b = U := by rw [hU]
    rwa [e] at h
  have kba : Hid (∀ w, Calls Tryd.prog 31 #[setV b, setV a] w fun e w' => e = .returned (setV U) ∧ Below w.heap.size w w') := fun w => by
    have h := union_any b a w
    have e : b ||| a = U := by rw [hU, Nat.or_comm]
    rwa [e] at h
  have jab : Hid (∀ w, Calls Tryd.prog 33 #[setV a, setV b] w fun e w' => e = .returned (setV I) ∧ Below w.heap.size w w') := fun w => by
    have h := common_any a b w
    have e : a &&& b = I := by rw [hI]
    rwa [e] at h
  have jba : Hid (∀ w, Calls Tryd.prog 33 #[setV b, setV a] w fun e w' => e = .returned (setV I) ∧ Below w.heap.size w w') := fun w => by
    have h := common_any b a w
    have e : b &&& a = I := by rw [hI, Nat.and_comm]
    rwa [e] at h
  have kUc : Hid (∀ w, Calls Tryd.prog 31 #[setV U, setV c] w fun e w' => e = .returned (setV X) ∧ Below w.heap.size w w') := fun w => by
    have h := union_any U c w
    have e : U ||| c = X := by rw [hX, hU]
    rwa [e] at h
  have kbc : Hid (∀ w, Calls Tryd.prog 31 #[setV b, setV c] w fun e w' => e = .returned (setV Y) ∧ Below w.heap.size w w') := fun w => by
    have h := union_any b c w
    have e : b ||| c = Y := by rw [hY]
    rwa [e] at h
  have kaY : Hid (∀ w, Calls Tryd.prog 31 #[setV a, setV Y] w fun e w' => e = .returned (setV X) ∧ Below w.heap.size w w') := fun w => by
    have h := union_any a Y w
    have e : a ||| Y = X := by rw [hX, hY, Nat.or_assoc]
    rwa [e] at h
  have jIc : Hid (∀ w, Calls Tryd.prog 33 #[setV I, setV c] w fun e w' => e = .returned (setV Z) ∧ Below w.heap.size w w') := fun w => by
    have h := common_any I c w
    have e : I &&& c = Z := by rw [hZ, hI]
    rwa [e] at h
  have jbc : Hid (∀ w, Calls Tryd.prog 33 #[setV b, setV c] w fun e w' => e = .returned (setV Y2) ∧ Below w.heap.size w w') := fun w => by
    have h := common_any b c w
    have e : b &&& c = Y2 := by rw [hY2]
    rwa [e] at h
  have jaY : Hid (∀ w, Calls Tryd.prog 33 #[setV a, setV Y2] w fun e w' => e = .returned (setV Z) ∧ Below w.heap.size w w') := fun w => by
    have h := common_any a Y2 w
    have e : a &&& Y2 = Z := by rw [hZ, hY2, Nat.and_assoc]
    rwa [e] at h
  have jUc : Hid (∀ w, Calls Tryd.prog 33 #[setV U, setV c] w fun e w' => e = .returned (setV P) ∧ Below w.heap.size w w') := fun w => by
    have h := common_any U c w
    have e : U &&& c = P := by rw [hP, hU]
    rwa [e] at h
  have jac : Hid (∀ w, Calls Tryd.prog 33 #[setV a, setV c] w fun e w' => e = .returned (setV Q1) ∧ Below w.heap.size w w') := fun w => by
    have h := common_any a c w
    have e : a &&& c = Q1 := by rw [hQ1]
    rwa [e] at h
  have kQY : Hid (∀ w, Calls Tryd.prog 31 #[setV Q1, setV Y2] w fun e w' => e = .returned (setV P) ∧ Below w.heap.size w w') := fun w => by
    have h := union_any Q1 Y2 w
    have e : Q1 ||| Y2 = P := by rw [hP, hQ1, hY2, Nat.and_or_distrib_right]
    rwa [e] at h
  have kIc : Hid (∀ w, Calls Tryd.prog 31 #[setV I, setV c] w fun e w' => e = .returned (setV R) ∧ Below w.heap.size w w') := fun w => by
    have h := union_any I c w
    have e : I ||| c = R := by rw [hR, hI]
    rwa [e] at h
  have kac : Hid (∀ w, Calls Tryd.prog 31 #[setV a, setV c] w fun e w' => e = .returned (setV S1) ∧ Below w.heap.size w w') := fun w => by
    have h := union_any a c w
    have e : a ||| c = S1 := by rw [hS1]
    rwa [e] at h
  have jSY : Hid (∀ w, Calls Tryd.prog 33 #[setV S1, setV Y] w fun e w' => e = .returned (setV R) ∧ Below w.heap.size w w') := fun w => by
    have h := common_any S1 Y w
    have e : S1 &&& Y = R := by rw [hR, hS1, hY, Nat.or_and_distrib_right]
    rwa [e] at h
  have dab : Hid (∀ w, Calls Tryd.prog 35 #[setV a, setV b] w fun e w' => e = .returned (setV D) ∧ Below w.heap.size w w') := fun w => by
    have h := minus_any a b w
    have e : diff a b = D := by rw [hD]
    rwa [e] at h
  have kID : Hid (∀ w, Calls Tryd.prog 31 #[setV I, setV D] w fun e w' => e = .returned (setV a) ∧ Below w.heap.size w w') := fun w => by
    have h := union_any I D w
    have e : I ||| D = a := by rw [hI, hD, or_and_diff]
    rwa [e] at h
  have mID : Hid (∀ w, Calls Tryd.prog 41 #[setV I, setV D] w fun e w' => e = .returned (.bool false) ∧ Below w.heap.size w w') := fun w => by
    have h := meets_any I D w
    have e : (!eqS (I &&& D) 0) = false := by rw [hI, hD, and_and_diff]; rfl
    rwa [e] at h
  have sU : Hid (∀ w, Calls Tryd.prog 37 #[setV U] w fun e w' => e = .returned (.int .i64 su) ∧ Below w.heap.size w w') := fun w => by
    have h := size_any U w
    have e : ((card U : Nat) : Int) = su := by rw [hsu, hU]
    rwa [e] at h
  have sI : Hid (∀ w, Calls Tryd.prog 37 #[setV I] w fun e w' => e = .returned (.int .i64 si) ∧ Below w.heap.size w w') := fun w => by
    have h := size_any I w
    have e : ((card I : Nat) : Int) = si := by rw [hsi, hI]
    rwa [e] at h
  have sA : Hid (∀ w, Calls Tryd.prog 37 #[setV a] w fun e w' => e = .returned (.int .i64 sa) ∧ Below w.heap.size w w') := fun w => by
    have h := size_any a w
    have e : ((card a : Nat) : Int) = sa := by rw [hsa]
    rwa [e] at h
  have sB : Hid (∀ w, Calls Tryd.prog 37 #[setV b] w fun e w' => e = .returned (.int .i64 sb) ∧ Below w.heap.size w w') := fun w => by
    have h := size_any b w
    have e : ((card b : Nat) : Int) = sb := by rw [hsb]
    rwa [e] at h
  have sD : Hid (∀ w, Calls Tryd.prog 37 #[setV D] w fun e w' => e = .returned (.int .i64 sd) ∧ Below w.heap.size w w') := fun w => by
    have h := size_any D w
    have e : ((card D : Nat) : Int) = sd := by rw [hsd, hD]
    rwa [e] at h
  have wab : Hid (∀ w, Calls Tryd.prog 39 #[setV a, setV b] w fun e w' => e = .returned (.bool p) ∧ Below w.heap.size w w') := fun w => by
    have h := within_any a b w
    have e : eqS (diff a b) 0 = p := by rw [hp]
    rwa [e] at h
  have waU : Hid (∀ w, Calls Tryd.prog 39 #[setV a, setV U] w fun e w' => e = .returned (.bool true) ∧ Below w.heap.size w w') := fun w => by
    have h := within_any a U w
    have e : eqS (diff a U) 0 = true := by rw [hU, diff_or_self]; rfl
    rwa [e] at h
  have wIa : Hid (∀ w, Calls Tryd.prog 39 #[setV I, setV a] w fun e w' => e = .returned (.bool true) ∧ Below w.heap.size w w') := fun w => by
    have h := within_any I a w
    have e : eqS (diff I a) 0 = true := by rw [hI, diff_and_self]; rfl
    rwa [e] at h
  have mab : Hid (∀ w, Calls Tryd.prog 41 #[setV a, setV b] w fun e w' => e = .returned (.bool m) ∧ Below w.heap.size w w') := fun w => by
    have h := meets_any a b w
    have e : (!eqS (a &&& b) 0) = m := by rw [hm]
    rwa [e] at h
  have cab : Hid (∀ w, Calls Tryd.prog 43 #[setV a, setV b] w fun e w' => e = .returned (.int .i64 x) ∧ Below w.heap.size w w') := fun w => by
    have h := compare_any a b w ha hb
    have e : cmpS a b = x := by rw [hx]
    rwa [e] at h
  have cbc : Hid (∀ w, Calls Tryd.prog 43 #[setV b, setV c] w fun e w' => e = .returned (.int .i64 y) ∧ Below w.heap.size w w') := fun w => by
    have h := compare_any b c w hb hc
    have e : cmpS b c = y := by rw [hy]
    rwa [e] at h
  have cac : Hid (∀ w, Calls Tryd.prog 43 #[setV a, setV c] w fun e w' => e = .returned (.int .i64 z) ∧ Below w.heap.size w w') := fun w => by
    have h := compare_any a c w ha hc
    have e : cmpS a c = z := by rw [hz]
    rwa [e] at h
  have cba : Hid (∀ w, Calls Tryd.prog 43 #[setV b, setV a] w fun e w' => e = .returned (.int .i64 (-x)) ∧ Below w.heap.size w w') := fun w => by
    have h := compare_any b a w hb ha
    have e : cmpS b a = -x := by rw [hx, cmp_neg]
    rwa [e] at h
  have c1 := card_le a; have c2 := card_le b; have c3 := card_le (a ||| b); have c4 := card_le (a &&& b); have c5 := card_le (diff a b)
  have E1 : Hid (su + si = sa + sb ∧ si + sd = sa ∧ su ≤ 256 ∧ si ≤ 256 ∧ sa ≤ 256 ∧ sb ≤ 256 ∧ sd ≤ 256) := by
    have := card_or_and a b; have := card_and_diff a b
    subst_vars; exact ⟨by omega, by omega, c3, c4, c1, c2, c5⟩
  have EU : Hid (eqS U b = p) := eqS_of (by rw [hU]; exact Nat.or_lt_two_pow ha hb) hb (by rw [hp, eqS_zero (diff_lt ha), hU, ← within_or]; simp)
  have EI : Hid (eqS I a = p) := eqS_of (by rw [hI]; exact and_lt ha) ha (by rw [hp, eqS_zero (diff_lt ha), hI, ← within_and]; simp)
  have EM : Hid ((!eqS I 0) = m) := by rw [Hid, hm, hI]
  have EX : Hid (x = cmpS a b ∧ y = cmpS b c ∧ z = cmpS a c) := ⟨hx, hy, hz⟩
  have EP : Hid (p = true → a ≤ b) := fun h => within_le (by rw [hp, eqS_zero (diff_lt ha)] at h; simpa using h)
  have EAB : Hid (eqS a b = (cmpS a b == 0)) := eqS_of ha hb (by rw [beq_iff_eq, cmp_zero])
  clear hU hI hX hY hZ hY2 hP hQ1 hR hS1 hD hsu hsi hsa hsb hsd hp hm hx hy hz c1 c2 c3 c4 c5
  go_enter Tryd.func9, Tryd.ntmps9
  simp only [setV]
  go_wp2_with (first | (go_at_call 16; refine (HS.out _ (HG.out.below (below_new3 _ _ _ _))).mono ?_; rintro e w2 ⟨rfl, hbl⟩))
  refine named (fun V => Below w.heap.size w V ∧ Blk V w.heap.size (setA a) 25 ∧ Blk V (w.heap.size + 1) (setA b) 25 ∧ Blk V (w.heap.size + 1 + 1) (setA c) 25)
    ⟨(below_new3 _ _ _ _).trans (hbl.mono (by simp; omega)), (((Blk.newW _ _ _).alloc _).alloc _).below hbl (by simp <;> omega), ((Blk.new1 _ _ _ _).alloc _).below hbl (by simp <;> omega), (Blk.newAt' (by simp) _ _).below hbl (by simp <;> omega)⟩ ?_
  clear hbl HG HS
  rintro W0 ⟨FB, K3, K4, K5⟩
  replace FB := Lib.hid FB; replace K3 := Lib.hid K3; replace K4 := Lib.hid K4; replace K5 := Lib.hid K5
  have l3 : Hid (w.heap.size ≤ w.heap.size) := Nat.le_refl _
  obtain ⟨b3, e3⟩ : ∃ k, k = w.heap.size := ⟨_, rfl⟩
  obtain ⟨b4, e4⟩ : ∃ k, k = w.heap.size + 1 := ⟨_, rfl⟩
  obtain ⟨b5, e5⟩ : ∃ k, k = w.heap.size + 1 + 1 := ⟨_, rfl⟩
  have L0 : Hid (b3 = w.heap.size ∧ b4 = w.heap.size + 1 ∧ b5 = w.heap.size + 1 + 1) := ⟨e3, e4, e5⟩
  rw [← e5] at K5; rw [← e4] at K4
  simp only [← e5]
  simp only [← e4]
  simp only [← e3]
  replace K3 : Hid (Blk W0 b3 (setA a) 25) := by rw [e3]; exact K3
  have hsub : w.heap.size = b3 := e3.symm
  clear e3 e4 e5 l3

  refine wp_region_old2 (Z := (fun e => if e = 25 then Tryd.zv25 else .bool false)) 8 219 [25, 25] (by kernel_rfl) (by kernel_rfl) (by kernel_rfl) (by kernel_rfl) (by intro e he w; simp only [List.mem_cons, List.not_mem_nil, or_false] at he; rcases he with rfl | rfl <;> first | exact Tryd.zeroValue25 w) (by rfl) ?_
  simp only [List.take_succ_cons, List.take_zero, List.drop_succ_cons, List.drop_zero, List.drop_nil]
  refine chain_load (setV a) _ _ _ (fun _ _ => Below.refl _ _) rfl rfl (by kernel_rfl) (by kernel_rfl) rfl (fun w1 hC => load_set (K3.out.drew.below hC K3.out.lt)) ?_
  refine chain_load (setV b) _ _ _ (fun _ _ => Below.refl _ _) rfl rfl (by kernel_rfl) (by kernel_rfl) rfl (fun w1 hC => load_set (K4.out.drew.below hC K4.out.lt)) ?_
  refine chain_call (setV U) 31 [setV a, setV b] _ _ (enters_of Tryd.func31 (by kernel_rfl) rfl) rfl rfl rfl (by kernel_rfl) (by kernel_rfl) rfl rfl (fun w1 _ => kab.out w1) ?_
  refine chain_load (setV b) _ _ _ (fun _ _ => Below.refl _ _) rfl rfl (by kernel_rfl) (by kernel_rfl) rfl (fun w1 hC => load_set (K4.out.drew.below hC K4.out.lt)) ?_
  refine chain_load (setV a) _ _ _ (fun _ _ => Below.refl _ _) rfl rfl (by kernel_rfl) (by kernel_rfl) rfl (fun w1 hC => load_set (K3.out.drew.below hC K3.out.lt)) ?_
  refine chain_call (setV U) 31 [setV b, setV a] _ _ (enters_of Tryd.func31 (by kernel_rfl) rfl) rfl rfl rfl (by kernel_rfl) (by kernel_rfl) rfl rfl (fun w1 _ => kba.out w1) ?_
  refine chain_alloc 25 Tryd.zv25 rfl rfl (by kernel_rfl) (by kernel_rfl) (fun w => Tryd.zeroValue25 w) ?_
  refine chain_alloc 25 Tryd.zv25 rfl rfl (by kernel_rfl) (by kernel_rfl) (fun w => Tryd.zeroValue25 w) ?_
  refine chain_end2 (by rfl) ?_
  intro xs V1 hCV1 hreV1 hNV1
  simp only [layE, List.foldr_cons, List.foldr_nil, List.set_cons_succ, List.set_cons_zero] at hNV1 ⊢
  obtain ⟨s6, hb6⟩ := hreV1 7 ptr_w rfl
  obtain ⟨s7, hb7⟩ := hreV1 8 ptr_w rfl
  simp only [hb6, hb7] at hNV1 ⊢
  obtain ⟨bx6, hx6, hB6, hk6⟩ := hNV1.1 6 _ _ 7 (by decide) (by rfl) (by rfl) rfl rfl rfl
  obtain rfl : s6 = bx6 := by simpa using hx6
  clear hx6
  obtain ⟨bx7, hx7, hB7, hk7⟩ := hNV1.1 7 _ _ 8 (by decide) (by rfl) (by rfl) rfl rfl rfl
  obtain rfl : s7 = bx7 := by simpa using hx7
  clear hx7
  have hne6_7 : s6 ≠ s7 := fun e => hNV1.2 6 7 _ _ _ _ 7 8 s6 (by decide) (by decide) (by decide) (by rfl) (by rfl) (by rfl) (by rfl) rfl rfl rfl rfl rfl rfl (by simp) (by simp [e])
  clear hNV1 hreV1 hb6 hb7
  have JBs : Hid (w.heap.size ≤ W0.heap.size) := FB.out.size
  have hC : Below W0.drew.heap.size W0.drew V1 := hCV1
  have Jb3 := Lib.hid (K3.out.drew.below hC K3.out.lt)
  have nb3 : Hid (b3 < W0.heap.size) := K3.out.lt
  have Jb4 := Lib.hid (K4.out.drew.below hC K4.out.lt)
  have nb4 : Hid (b4 < W0.heap.size) := K4.out.lt
  have Jb5 := Lib.hid (K5.out.drew.below hC K5.out.lt)
  have nb5 : Hid (b5 < W0.heap.size) := K5.out.lt
  have JB := Lib.hid (old_end FB.out hCV1 FB.out.size)
  have z1 : Blk V1 s6 (setA 0) 25 := by rw [setA_zero]; exact hk6
  have z2 : Blk V1 s7 (setA 0) 25 := by rw [setA_zero]; exact hk7
  have Z1 := Lib.hid z1; have Z2 := Lib.hid z2
  obtain ⟨u0, u1, u2, u3, uf⟩ := z1.set4
  obtain ⟨v0, v1, v2, v3, vf⟩ := z2.set4
  have NE := Lib.hid hne6_7; have HB6 := Lib.hid hB6; have HB7 := Lib.hid hB7
  have hne67 := hne6_7; have hne76 : ¬ s7 = s6 := fun e => hne6_7 e.symm
  clear hC hCV1 hk6 hk7 z1 z2 hB6 hB7 hne6_7 K3 K4 K5 FB
  simp only [setV]
  go_upto_region 4 with (fail)
  refine named (fun V => Below w.heap.size w V ∧ Blk V b3 (setA a) 25 ∧ Blk V b4 (setA b) 25 ∧ Blk V b5 (setA c) 25 ∧ Blk V s6 (setA U) 25 ∧ Blk V s7 (setA U) 25) ⟨below_put4 (below_put4 JB.out (Nat.le_trans JBs.out HB6.out) _ _ _ _) (Nat.le_trans JBs.out HB7.out) _ _ _ _, ((Jb3.out.other4 (by have := nb3.out; have := HB6.out; omega) _ _ _ _).other4 (by have := nb3.out; have := HB7.out; omega) _ _ _ _), ((Jb4.out.other4 (by have := nb4.out; have := HB6.out; omega) _ _ _ _).other4 (by have := nb4.out; have := HB7.out; omega) _ _ _ _), ((Jb5.out.other4 (by have := nb5.out; have := HB6.out; omega) _ _ _ _).other4 (by have := nb5.out; have := HB7.out; omega) _ _ _ _), (Z1.out.putS U).other4 NE.out _ _ _ _, (Z2.out.other4 (Ne.symm NE.out) _ _ _ _).putS U⟩ ?_
  clear JBs JB Z1 Z2 NE HB6 HB7 hne67 hne76 u0 u1 u2 u3 uf v0 v1 v2 v3 vf Jb3 nb3 Jb4 nb4 Jb5 nb5
  rintro W2 ⟨FB, K3, K4, K5, K7, K8⟩
  replace FB := Lib.hid FB; replace K3 := Lib.hid K3; replace K4 := Lib.hid K4; replace K5 := Lib.hid K5; replace K7 := Lib.hid K7; replace K8 := Lib.hid K8
  refine wp_region_old2 (Z := (fun e => if e = 25 then Tryd.zv25 else .bool false)) 8 219 [25, 25] (by kernel_rfl) (by kernel_rfl) (by kernel_rfl) (by kernel_rfl) (by intro e he w; simp only [List.mem_cons, List.not_mem_nil, or_false] at he; rcases he with rfl | rfl <;> first | exact Tryd.zeroValue25 w) (by rfl) ?_
  simp only [List.take_succ_cons, List.take_zero, List.drop_succ_cons, List.drop_zero, List.drop_nil]
  refine chain_load (setV a) _ _ _ (fun _ _ => Below.refl _ _) rfl rfl (by kernel_rfl) (by kernel_rfl) rfl (fun w1 hC => load_set (K3.out.drew.below hC K3.out.lt)) ?_
  refine chain_load (setV b) _ _ _ (fun _ _ => Below.refl _ _) rfl rfl (by kernel_rfl) (by kernel_rfl) rfl (fun w1 hC => load_set (K4.out.drew.below hC K4.out.lt)) ?_
  refine chain_call (setV I) 33 [setV a, setV b] _ _ (enters_of Tryd.func33 (by kernel_rfl) rfl) rfl rfl rfl (by kernel_rfl) (by kernel_rfl) rfl rfl (fun w1 _ => jab.out w1) ?_
  refine chain_load (setV b) _ _ _ (fun _ _ => Below.refl _ _) rfl rfl (by kernel_rfl) (by kernel_rfl) rfl (fun w1 hC => load_set (K4.out.drew.below hC K4.out.lt)) ?_
  refine chain_load (setV a) _ _ _ (fun _ _ => Below.refl _ _) rfl rfl (by kernel_rfl) (by kernel_rfl) rfl (fun w1 hC => load_set (K3.out.drew.below hC K3.out.lt)) ?_
  refine chain_call (setV I) 33 [setV b, setV a] _ _ (enters_of Tryd.func33 (by kernel_rfl) rfl) rfl rfl rfl (by kernel_rfl) (by kernel_rfl) rfl rfl (fun w1 _ => jba.out w1) ?_
  refine chain_alloc 25 Tryd.zv25 rfl rfl (by kernel_rfl) (by kernel_rfl) (fun w => Tryd.zeroValue25 w) ?_
  refine chain_alloc 25 Tryd.zv25 rfl rfl (by kernel_rfl) (by kernel_rfl) (fun w => Tryd.zeroValue25 w) ?_
  refine chain_end2 (by rfl) ?_
  intro xs V3 hCV3 hreV3 hNV3
  simp only [layE, List.foldr_cons, List.foldr_nil, List.set_cons_succ, List.set_cons_zero] at hNV3 ⊢
  obtain ⟨t6, hb6⟩ := hreV3 9 ptr_w rfl
  obtain ⟨t7, hb7⟩ := hreV3 10 ptr_w rfl
  simp only [hb6, hb7] at hNV3 ⊢
  obtain ⟨bx6, hx6, hB6, hk6⟩ := hNV3.1 6 _ _ 9 (by decide) (by rfl) (by rfl) rfl rfl rfl
  obtain rfl : t6 = bx6 := by simpa using hx6
  clear hx6
  obtain ⟨bx7, hx7, hB7, hk7⟩ := hNV3.1 7 _ _ 10 (by decide) (by rfl) (by rfl) rfl rfl rfl
  obtain rfl : t7 = bx7 := by simpa using hx7
  clear hx7
  have hne6_7 : t6 ≠ t7 := fun e => hNV3.2 6 7 _ _ _ _ 9 10 t6 (by decide) (by decide) (by decide) (by rfl) (by rfl) (by rfl) (by rfl) rfl rfl rfl rfl rfl rfl (by simp) (by simp [e])
  clear hNV3 hreV3 hb6 hb7
  have JBs : Hid (w.heap.size ≤ W2.heap.size) := FB.out.size
  have hC : Below W2.drew.heap.size W2.drew V3 := hCV3
  have Jb3 := Lib.hid (K3.out.drew.below hC K3.out.lt)
  have nb3 : Hid (b3 < W2.heap.size) := K3.out.lt
  have Jb4 := Lib.hid (K4.out.drew.below hC K4.out.lt)
  have nb4 : Hid (b4 < W2.heap.size) := K4.out.lt
  have Jb5 := Lib.hid (K5.out.drew.below hC K5.out.lt)
  have nb5 : Hid (b5 < W2.heap.size) := K5.out.lt
  have Js6 := Lib.hid (K7.out.drew.below hC K7.out.lt)
  have ns6 : Hid (s6 < W2.heap.size) := K7.out.lt
  have Js7 := Lib.hid (K8.out.drew.below hC K8.out.lt)
  have ns7 : Hid (s7 < W2.heap.size) := K8.out.lt
  have JB := Lib.hid (old_end FB.out hCV3 FB.out.size)
  have z1 : Blk V3 t6 (setA 0) 25 := by rw [setA_zero]; exact hk6
  have z2 : Blk V3 t7 (setA 0) 25 := by rw [setA_zero]; exact hk7
  have Z1 := Lib.hid z1; have Z2 := Lib.hid z2
  obtain ⟨u0, u1, u2, u3, uf⟩ := z1.set4
  obtain ⟨v0, v1, v2, v3, vf⟩ := z2.set4
  have NE := Lib.hid hne6_7; have HB6 := Lib.hid hB6; have HB7 := Lib.hid hB7
  have hne67 := hne6_7; have hne76 : ¬ t7 = t6 := fun e => hne6_7 e.symm
  clear hC hCV3 hk6 hk7 z1 z2 hB6 hB7 hne6_7 K3 K4 K5 K7 K8 FB
  simp only [setV]
  go_upto_region 5 with (fail)
  refine named (fun V => Below w.heap.size w V ∧ Blk V b3 (setA a) 25 ∧ Blk V b4 (setA b) 25 ∧ Blk V b5 (setA c) 25 ∧ Blk V s6 (setA U) 25 ∧ Blk V s7 (setA U) 25 ∧ Blk V t6 (setA I) 25 ∧ Blk V t7 (setA I) 25) ⟨below_put4 (below_put4 JB.out (Nat.le_trans JBs.out HB6.out) _ _ _ _) (Nat.le_trans JBs.out HB7.out) _ _ _ _, ((Jb3.out.other4 (by have := nb3.out; have := HB6.out; omega) _ _ _ _).other4 (by have := nb3.out; have := HB7.out; omega) _ _ _ _), ((Jb4.out.other4 (by have := nb4.out; have := HB6.out; omega) _ _ _ _).other4 (by have := nb4.out; have := HB7.out; omega) _ _ _ _), ((Jb5.out.other4 (by have := nb5.out; have := HB6.out; omega) _ _ _ _).other4 (by have := nb5.out; have := HB7.out; omega) _ _ _ _), ((Js6.out.other4 (by have := ns6.out; have := HB6.out; omega) _ _ _ _).other4 (by have := ns6.out; have := HB7.out; omega) _ _ _ _), ((Js7.out.other4 (by have := ns7.out; have := HB6.out; omega) _ _ _ _).other4 (by have := ns7.out; have := HB7.out; omega) _ _ _ _), (Z1.out.putS I).other4 NE.out _ _ _ _, (Z2.out.other4 (Ne.symm NE.out) _ _ _ _).putS I⟩ ?_
  clear JBs JB Z1 Z2 NE HB6 HB7 hne67 hne76 u0 u1 u2 u3 uf v0 v1 v2 v3 vf Jb3 nb3 Jb4 nb4 Jb5 nb5 Js6 ns6 Js7 ns7
  rintro W4 ⟨FB, K3, K4, K5, K7, K8, K9, K10⟩
  replace FB := Lib.hid FB; replace K3 := Lib.hid K3; replace K4 := Lib.hid K4; replace K5 := Lib.hid K5; replace K7 := Lib.hid K7; replace K8 := Lib.hid K8; replace K9 := Lib.hid K9; replace K10 := Lib.hid K10
  refine wp_region_old 30 219 (by kernel_rfl) (by kernel_rfl) (by rfl) ?_
  simp only [List.take_succ_cons, List.take_zero, List.drop_succ_cons, List.drop_zero, List.drop_nil]
  refine chain_load (setV U) _ _ _ (fun _ _ => Below.refl _ _) rfl rfl (by kernel_rfl) (by kernel_rfl) rfl (fun w1 hC => load_set (K7.out.drew.below hC K7.out.lt)) ?_
  refine chain_load (setV U) _ _ _ (fun _ _ => Below.refl _ _) rfl rfl (by kernel_rfl) (by kernel_rfl) rfl (fun w1 hC => load_set (K8.out.drew.below hC K8.out.lt)) ?_
  refine chain_bin (.bool false) _ _ _ _ _ (setV U) (setV U) (fun _ _ => Below.refl _ _) rfl rfl (by kernel_rfl) (by kernel_rfl) rfl rfl (fun w => neq_set_same _ _ _ w) ?_
  refine chain_move (.bool false) _ (fun _ _ => Below.refl _ _) rfl rfl (by kernel_rfl) (by kernel_rfl) rfl ?_
  refine chain_load (setV I) _ _ _ (fun _ _ => Below.refl _ _) rfl rfl (by kernel_rfl) (by kernel_rfl) rfl (fun w1 hC => load_set (K9.out.drew.below hC K9.out.lt)) ?_
  refine chain_load (setV I) _ _ _ (fun _ _ => Below.refl _ _) rfl rfl (by kernel_rfl) (by kernel_rfl) rfl (fun w1 hC => load_set (K10.out.drew.below hC K10.out.lt)) ?_
  refine chain_bin (.bool false) _ _ _ _ _ (setV I) (setV I) (fun _ _ => Below.refl _ _) rfl rfl (by kernel_rfl) (by kernel_rfl) rfl rfl (fun w => neq_set_same _ _ _ w) ?_
  refine chain_pick (.bool false) _ _ _ false (fun _ _ => Below.refl _ _) rfl rfl (by kernel_rfl) (by kernel_rfl) rfl rfl ?_
  refine chain_move (.bool false) _ (fun _ _ => Below.refl _ _) rfl rfl (by kernel_rfl) (by kernel_rfl) rfl ?_
  refine chain_load (setV U) _ _ _ (fun _ _ => Below.refl _ _) rfl rfl (by kernel_rfl) (by kernel_rfl) rfl (fun w1 hC => load_set (K7.out.drew.below hC K7.out.lt)) ?_
  refine chain_load (setV c) _ _ _ (fun _ _ => Below.refl _ _) rfl rfl (by kernel_rfl) (by kernel_rfl) rfl (fun w1 hC => load_set (K5.out.drew.below hC K5.out.lt)) ?_
  refine chain_call (setV X) 31 [setV U, setV c] _ _ (enters_of Tryd.func31 (by kernel_rfl) rfl) rfl rfl rfl (by kernel_rfl) (by kernel_rfl) rfl rfl (fun w1 _ => kUc.out w1) ?_
  refine chain_load (setV a) _ _ _ (fun _ _ => Below.refl _ _) rfl rfl (by kernel_rfl) (by kernel_rfl) rfl (fun w1 hC => load_set (K3.out.drew.below hC K3.out.lt)) ?_
  refine chain_load (setV b) _ _ _ (fun _ _ => Below.refl _ _) rfl rfl (by kernel_rfl) (by kernel_rfl) rfl (fun w1 hC => load_set (K4.out.drew.below hC K4.out.lt)) ?_
  refine chain_load (setV c) _ _ _ (fun _ _ => Below.refl _ _) rfl rfl (by kernel_rfl) (by kernel_rfl) rfl (fun w1 hC => load_set (K5.out.drew.below hC K5.out.lt)) ?_
  refine chain_call (setV Y) 31 [setV b, setV c] _ _ (enters_of Tryd.func31 (by kernel_rfl) rfl) rfl rfl rfl (by kernel_rfl) (by kernel_rfl) rfl rfl (fun w1 _ => kbc.out w1) ?_
  refine chain_call (setV X) 31 [setV a, setV Y] _ _ (enters_of Tryd.func31 (by kernel_rfl) rfl) rfl rfl rfl (by kernel_rfl) (by kernel_rfl) rfl rfl (fun w1 _ => kaY.out w1) ?_
  refine chain_bin (.bool false) _ _ _ _ _ (setV X) (setV X) (fun _ _ => Below.refl _ _) rfl rfl (by kernel_rfl) (by kernel_rfl) rfl rfl (fun w => neq_set_same _ _ _ w) ?_
  refine chain_pick (.bool false) _ _ _ false (fun _ _ => Below.refl _ _) rfl rfl (by kernel_rfl) (by kernel_rfl) rfl rfl ?_
  refine chain_move (.bool false) _ (fun _ _ => Below.refl _ _) rfl rfl (by kernel_rfl) (by kernel_rfl) rfl ?_
  refine chain_load (setV I) _ _ _ (fun _ _ => Below.refl _ _) rfl rfl (by kernel_rfl) (by kernel_rfl) rfl (fun w1 hC => load_set (K9.out.drew.below hC K9.out.lt)) ?_
  refine chain_load (setV c) _ _ _ (fun _ _ => Below.refl _ _) rfl rfl (by kernel_rfl) (by kernel_rfl) rfl (fun w1 hC => load_set (K5.out.drew.below hC K5.out.lt)) ?_
  refine chain_call (setV Z) 33 [setV I, setV c] _ _ (enters_of Tryd.func33 (by kernel_rfl) rfl) rfl rfl rfl (by kernel_rfl) (by kernel_rfl) rfl rfl (fun w1 _ => jIc.out w1) ?_
  refine chain_load (setV a) _ _ _ (fun _ _ => Below.refl _ _) rfl rfl (by kernel_rfl) (by kernel_rfl) rfl (fun w1 hC => load_set (K3.out.drew.below hC K3.out.lt)) ?_
  refine chain_load (setV b) _ _ _ (fun _ _ => Below.refl _ _) rfl rfl (by kernel_rfl) (by kernel_rfl) rfl (fun w1 hC => load_set (K4.out.drew.below hC K4.out.lt)) ?_
  refine chain_load (setV c) _ _ _ (fun _ _ => Below.refl _ _) rfl rfl (by kernel_rfl) (by kernel_rfl) rfl (fun w1 hC => load_set (K5.out.drew.below hC K5.out.lt)) ?_
  refine chain_call (setV Y2) 33 [setV b, setV c] _ _ (enters_of Tryd.func33 (by kernel_rfl) rfl) rfl rfl rfl (by kernel_rfl) (by kernel_rfl) rfl rfl (fun w1 _ => jbc.out w1) ?_
  refine chain_call (setV Z) 33 [setV a, setV Y2] _ _ (enters_of Tryd.func33 (by kernel_rfl) rfl) rfl rfl rfl (by kernel_rfl) (by kernel_rfl) rfl rfl (fun w1 _ => jaY.out w1) ?_
  refine chain_bin (.bool false) _ _ _ _ _ (setV Z) (setV Z) (fun _ _ => Below.refl _ _) rfl rfl (by kernel_rfl) (by kernel_rfl) rfl rfl (fun w => neq_set_same _ _ _ w) ?_
  refine chain_pick (.bool false) _ _ _ false (fun _ _ => Below.refl _ _) rfl rfl (by kernel_rfl) (by kernel_rfl) rfl rfl ?_
  refine chain_end (by rfl) ?_
  intro xs W5 hCW5 hreW5
  simp only [layE, List.foldr_cons, List.foldr_nil, List.set_cons_succ, List.set_cons_zero]
  have hC : Below W4.drew.heap.size W4.drew W5 := hCW5
  replace FB := Lib.hid (old_end FB.out hCW5 FB.out.size)
  replace K3 := Lib.hid (K3.out.drew.below hC K3.out.lt)
  replace K4 := Lib.hid (K4.out.drew.below hC K4.out.lt)
  replace K5 := Lib.hid (K5.out.drew.below hC K5.out.lt)
  replace K7 := Lib.hid (K7.out.drew.below hC K7.out.lt)
  replace K8 := Lib.hid (K8.out.drew.below hC K8.out.lt)
  replace K9 := Lib.hid (K9.out.drew.below hC K9.out.lt)
  replace K10 := Lib.hid (K10.out.drew.below hC K10.out.lt)
  clear hC hCW5 hreW5
  go_upto_region 7 with (fail)
  refine wp_region_old 24 219 (by kernel_rfl) (by kernel_rfl) (by rfl) ?_
  simp only [List.take_succ_cons, List.take_zero, List.drop_succ_cons, List.drop_zero, List.drop_nil]
  refine chain_load (setV U) _ _ _ (fun _ _ => Below.refl _ _) rfl rfl (by kernel_rfl) (by kernel_rfl) rfl (fun w1 hC => load_set (K7.out.drew.below hC K7.out.lt)) ?_
  refine chain_load (setV c) _ _ _ (fun _ _ => Below.refl _ _) rfl rfl (by kernel_rfl) (by kernel_rfl) rfl (fun w1 hC => load_set (K5.out.drew.below hC K5.out.lt)) ?_
  refine chain_call (setV P) 33 [setV U, setV c] _ _ (enters_of Tryd.func33 (by kernel_rfl) rfl) rfl rfl rfl (by kernel_rfl) (by kernel_rfl) rfl rfl (fun w1 _ => jUc.out w1) ?_
  refine chain_load (setV a) _ _ _ (fun _ _ => Below.refl _ _) rfl rfl (by kernel_rfl) (by kernel_rfl) rfl (fun w1 hC => load_set (K3.out.drew.below hC K3.out.lt)) ?_
  refine chain_load (setV c) _ _ _ (fun _ _ => Below.refl _ _) rfl rfl (by kernel_rfl) (by kernel_rfl) rfl (fun w1 hC => load_set (K5.out.drew.below hC K5.out.lt)) ?_
  refine chain_call (setV Q1) 33 [setV a, setV c] _ _ (enters_of Tryd.func33 (by kernel_rfl) rfl) rfl rfl rfl (by kernel_rfl) (by kernel_rfl) rfl rfl (fun w1 _ => jac.out w1) ?_
  refine chain_load (setV b) _ _ _ (fun _ _ => Below.refl _ _) rfl rfl (by kernel_rfl) (by kernel_rfl) rfl (fun w1 hC => load_set (K4.out.drew.below hC K4.out.lt)) ?_
  refine chain_load (setV c) _ _ _ (fun _ _ => Below.refl _ _) rfl rfl (by kernel_rfl) (by kernel_rfl) rfl (fun w1 hC => load_set (K5.out.drew.below hC K5.out.lt)) ?_
  refine chain_call (setV Y2) 33 [setV b, setV c] _ _ (enters_of Tryd.func33 (by kernel_rfl) rfl) rfl rfl rfl (by kernel_rfl) (by kernel_rfl) rfl rfl (fun w1 _ => jbc.out w1) ?_
  refine chain_call (setV P) 31 [setV Q1, setV Y2] _ _ (enters_of Tryd.func31 (by kernel_rfl) rfl) rfl rfl rfl (by kernel_rfl) (by kernel_rfl) rfl rfl (fun w1 _ => kQY.out w1) ?_
  refine chain_bin (.bool false) _ _ _ _ _ (setV P) (setV P) (fun _ _ => Below.refl _ _) rfl rfl (by kernel_rfl) (by kernel_rfl) rfl rfl (fun w => neq_set_same _ _ _ w) ?_
  refine chain_move (.bool false) _ (fun _ _ => Below.refl _ _) rfl rfl (by kernel_rfl) (by kernel_rfl) rfl ?_
  refine chain_load (setV I) _ _ _ (fun _ _ => Below.refl _ _) rfl rfl (by kernel_rfl) (by kernel_rfl) rfl (fun w1 hC => load_set (K9.out.drew.below hC K9.out.lt)) ?_
  refine chain_load (setV c) _ _ _ (fun _ _ => Below.refl _ _) rfl rfl (by kernel_rfl) (by kernel_rfl) rfl (fun w1 hC => load_set (K5.out.drew.below hC K5.out.lt)) ?_
  refine chain_call (setV R) 31 [setV I, setV c] _ _ (enters_of Tryd.func31 (by kernel_rfl) rfl) rfl rfl rfl (by kernel_rfl) (by kernel_rfl) rfl rfl (fun w1 _ => kIc.out w1) ?_
  refine chain_load (setV a) _ _ _ (fun _ _ => Below.refl _ _) rfl rfl (by kernel_rfl) (by kernel_rfl) rfl (fun w1 hC => load_set (K3.out.drew.below hC K3.out.lt)) ?_
  refine chain_load (setV c) _ _ _ (fun _ _ => Below.refl _ _) rfl rfl (by kernel_rfl) (by kernel_rfl) rfl (fun w1 hC => load_set (K5.out.drew.below hC K5.out.lt)) ?_
  refine chain_call (setV S1) 31 [setV a, setV c] _ _ (enters_of Tryd.func31 (by kernel_rfl) rfl) rfl rfl rfl (by kernel_rfl) (by kernel_rfl) rfl rfl (fun w1 _ => kac.out w1) ?_
  refine chain_load (setV b) _ _ _ (fun _ _ => Below.refl _ _) rfl rfl (by kernel_rfl) (by kernel_rfl) rfl (fun w1 hC => load_set (K4.out.drew.below hC K4.out.lt)) ?_
  refine chain_load (setV c) _ _ _ (fun _ _ => Below.refl _ _) rfl rfl (by kernel_rfl) (by kernel_rfl) rfl (fun w1 hC => load_set (K5.out.drew.below hC K5.out.lt)) ?_
  refine chain_call (setV Y) 31 [setV b, setV c] _ _ (enters_of Tryd.func31 (by kernel_rfl) rfl) rfl rfl rfl (by kernel_rfl) (by kernel_rfl) rfl rfl (fun w1 _ => kbc.out w1) ?_
  refine chain_call (setV R) 33 [setV S1, setV Y] _ _ (enters_of Tryd.func33 (by kernel_rfl) rfl) rfl rfl rfl (by kernel_rfl) (by kernel_rfl) rfl rfl (fun w1 _ => jSY.out w1) ?_
  refine chain_bin (.bool false) _ _ _ _ _ (setV R) (setV R) (fun _ _ => Below.refl _ _) rfl rfl (by kernel_rfl) (by kernel_rfl) rfl rfl (fun w => neq_set_same _ _ _ w) ?_
  refine chain_pick (.bool false) _ _ _ false (fun _ _ => Below.refl _ _) rfl rfl (by kernel_rfl) (by kernel_rfl) rfl rfl ?_
  refine chain_end (by rfl) ?_
  intro xs W6 hCW6 hreW6
  simp only [layE, List.foldr_cons, List.foldr_nil, List.set_cons_succ, List.set_cons_zero]
  have hC : Below W5.drew.heap.size W5.drew W6 := hCW6
  replace FB := Lib.hid (old_end FB.out hCW6 FB.out.size)
  replace K3 := Lib.hid (K3.out.drew.below hC K3.out.lt)
  replace K4 := Lib.hid (K4.out.drew.below hC K4.out.lt)
  replace K5 := Lib.hid (K5.out.drew.below hC K5.out.lt)
  replace K7 := Lib.hid (K7.out.drew.below hC K7.out.lt)
  replace K8 := Lib.hid (K8.out.drew.below hC K8.out.lt)
  replace K9 := Lib.hid (K9.out.drew.below hC K9.out.lt)
  replace K10 := Lib.hid (K10.out.drew.below hC K10.out.lt)
  clear hC hCW6 hreW6
  obtain ⟨a0, a1, a2, a3, af⟩ := K3.out.set4
  obtain ⟨d0, d1, d2, d3, df⟩ := K4.out.set4
  go_upto_region 10 with (first | (go_at_call 35; refine (dab.out _).mono ?_; rintro e w2 ⟨rfl, hb2⟩; simp only [setV]))

  refine named (fun V => Below w.heap.size w V ∧ Blk V b3 (setA a) 25 ∧ Blk V b4 (setA b) 25 ∧ Blk V b5 (setA c) 25 ∧ Blk V s6 (setA U) 25 ∧ Blk V s7 (setA U) 25 ∧ Blk V t6 (setA I) 25 ∧ Blk V t7 (setA I) 25 ∧ Blk V w2.heap.size (setA D) 25) ⟨(FB.out.trans (hb2.mono FB.out.size)).alloc (FB.out.trans (hb2.mono FB.out.size)).size _, (K3.out.below hb2 K3.out.lt).alloc _, (K4.out.below hb2 K4.out.lt).alloc _, (K5.out.below hb2 K5.out.lt).alloc _, (K7.out.below hb2 K7.out.lt).alloc _, (K8.out.below hb2 K8.out.lt).alloc _, (K9.out.below hb2 K9.out.lt).alloc _, (K10.out.below hb2 K10.out.lt).alloc _, Blk.newW _ _ _⟩ ?_
  clear hb2 a0 a1 a2 a3 af d0 d1 d2 d3 df FB K3 K4 K5 K7 K8 K9 K10
  rintro W7 ⟨FB, K3, K4, K5, K7, K8, K9, K10, K11⟩
  generalize w2.heap.size = s11 at K11 ⊢
  replace FB := Lib.hid FB; replace K3 := Lib.hid K3; replace K4 := Lib.hid K4; replace K5 := Lib.hid K5; replace K7 := Lib.hid K7; replace K8 := Lib.hid K8; replace K9 := Lib.hid K9; replace K10 := Lib.hid K10; replace K11 := Lib.hid K11
  refine wp_region_old 33 219 (by kernel_rfl) (by kernel_rfl) (by rfl) ?_
  simp only [List.take_succ_cons, List.take_zero, List.drop_succ_cons, List.drop_zero, List.drop_nil]
  refine chain_load (setV I) _ _ _ (fun _ _ => Below.refl _ _) rfl rfl (by kernel_rfl) (by kernel_rfl) rfl (fun w1 hC => load_set (K9.out.drew.below hC K9.out.lt)) ?_
  refine chain_load (setV D) _ _ _ (fun _ _ => Below.refl _ _) rfl rfl (by kernel_rfl) (by kernel_rfl) rfl (fun w1 hC => load_set (K11.out.drew.below hC K11.out.lt)) ?_
  refine chain_call (setV a) 31 [setV I, setV D] _ _ (enters_of Tryd.func31 (by kernel_rfl) rfl) rfl rfl rfl (by kernel_rfl) (by kernel_rfl) rfl rfl (fun w1 _ => kID.out w1) ?_
  refine chain_load (setV a) _ _ _ (fun _ _ => Below.refl _ _) rfl rfl (by kernel_rfl) (by kernel_rfl) rfl (fun w1 hC => load_set (K3.out.drew.below hC K3.out.lt)) ?_
  refine chain_bin (.bool false) _ _ _ _ _ (setV a) (setV a) (fun _ _ => Below.refl _ _) rfl rfl (by kernel_rfl) (by kernel_rfl) rfl rfl (fun w => neq_set_same _ _ _ w) ?_
  refine chain_move (.bool false) _ (fun _ _ => Below.refl _ _) rfl rfl (by kernel_rfl) (by kernel_rfl) rfl ?_
  refine chain_load (setV I) _ _ _ (fun _ _ => Below.refl _ _) rfl rfl (by kernel_rfl) (by kernel_rfl) rfl (fun w1 hC => load_set (K9.out.drew.below hC K9.out.lt)) ?_
  refine chain_load (setV D) _ _ _ (fun _ _ => Below.refl _ _) rfl rfl (by kernel_rfl) (by kernel_rfl) rfl (fun w1 hC => load_set (K11.out.drew.below hC K11.out.lt)) ?_
  refine chain_call (.bool false) 41 [setV I, setV D] _ _ (enters_of Tryd.func41 (by kernel_rfl) rfl) rfl rfl rfl (by kernel_rfl) (by kernel_rfl) rfl rfl (fun w1 _ => mID.out w1) ?_
  refine chain_pick (.bool false) _ _ _ false (fun _ _ => Below.refl _ _) rfl rfl (by kernel_rfl) (by kernel_rfl) rfl rfl ?_
  refine chain_move (.bool false) _ (fun _ _ => Below.refl _ _) rfl rfl (by kernel_rfl) (by kernel_rfl) rfl ?_
  refine chain_load (setV U) _ _ _ (fun _ _ => Below.refl _ _) rfl rfl (by kernel_rfl) (by kernel_rfl) rfl (fun w1 hC => load_set (K7.out.drew.below hC K7.out.lt)) ?_
  refine chain_call (.int .i64 su) 37 [setV U] _ _ (enters_of Tryd.func37 (by kernel_rfl) rfl) rfl rfl rfl (by kernel_rfl) (by kernel_rfl) rfl rfl (fun w1 _ => sU.out w1) ?_
  refine chain_load (setV I) _ _ _ (fun _ _ => Below.refl _ _) rfl rfl (by kernel_rfl) (by kernel_rfl) rfl (fun w1 hC => load_set (K9.out.drew.below hC K9.out.lt)) ?_
  refine chain_call (.int .i64 si) 37 [setV I] _ _ (enters_of Tryd.func37 (by kernel_rfl) rfl) rfl rfl rfl (by kernel_rfl) (by kernel_rfl) rfl rfl (fun w1 _ => sI.out w1) ?_
  refine chain_bin (.int .i64 ((sa : Int) + sb)) _ _ _ _ _ (.int .i64 su) (.int .i64 si) (fun _ _ => Below.refl _ _) rfl rfl (by kernel_rfl) (by kernel_rfl) rfl rfl (fun w1 => add_small _ _ _ _ _ _ (by have := E1.out; omega) (by have := E1.out; omega) w1) ?_
  refine chain_load (setV a) _ _ _ (fun _ _ => Below.refl _ _) rfl rfl (by kernel_rfl) (by kernel_rfl) rfl (fun w1 hC => load_set (K3.out.drew.below hC K3.out.lt)) ?_
  refine chain_call (.int .i64 sa) 37 [setV a] _ _ (enters_of Tryd.func37 (by kernel_rfl) rfl) rfl rfl rfl (by kernel_rfl) (by kernel_rfl) rfl rfl (fun w1 _ => sA.out w1) ?_
  refine chain_load (setV b) _ _ _ (fun _ _ => Below.refl _ _) rfl rfl (by kernel_rfl) (by kernel_rfl) rfl (fun w1 hC => load_set (K4.out.drew.below hC K4.out.lt)) ?_
  refine chain_call (.int .i64 sb) 37 [setV b] _ _ (enters_of Tryd.func37 (by kernel_rfl) rfl) rfl rfl rfl (by kernel_rfl) (by kernel_rfl) rfl rfl (fun w1 _ => sB.out w1) ?_
  refine chain_bin (.int .i64 ((sa : Int) + sb)) _ _ _ _ _ (.int .i64 sa) (.int .i64 sb) (fun _ _ => Below.refl _ _) rfl rfl (by kernel_rfl) (by kernel_rfl) rfl rfl (fun w1 => add_small _ _ _ _ _ _ rfl (by have := E1.out; omega) w1) ?_
  refine chain_bin (.bool false) _ _ _ _ _ (.int .i64 ((sa : Int) + sb)) (.int .i64 ((sa : Int) + sb)) (fun _ _ => Below.refl _ _) rfl rfl (by kernel_rfl) (by kernel_rfl) rfl rfl (fun w => neq_int_same _ _ _ _ w) ?_
  refine chain_pick (.bool false) _ _ _ false (fun _ _ => Below.refl _ _) rfl rfl (by kernel_rfl) (by kernel_rfl) rfl rfl ?_
  refine chain_move (.bool false) _ (fun _ _ => Below.refl _ _) rfl rfl (by kernel_rfl) (by kernel_rfl) rfl ?_
  refine chain_load (setV I) _ _ _ (fun _ _ => Below.refl _ _) rfl rfl (by kernel_rfl) (by kernel_rfl) rfl (fun w1 hC => load_set (K9.out.drew.below hC K9.out.lt)) ?_
  refine chain_call (.int .i64 si) 37 [setV I] _ _ (enters_of Tryd.func37 (by kernel_rfl) rfl) rfl rfl rfl (by kernel_rfl) (by kernel_rfl) rfl rfl (fun w1 _ => sI.out w1) ?_
  refine chain_load (setV D) _ _ _ (fun _ _ => Below.refl _ _) rfl rfl (by kernel_rfl) (by kernel_rfl) rfl (fun w1 hC => load_set (K11.out.drew.below hC K11.out.lt)) ?_
  refine chain_call (.int .i64 sd) 37 [setV D] _ _ (enters_of Tryd.func37 (by kernel_rfl) rfl) rfl rfl rfl (by kernel_rfl) (by kernel_rfl) rfl rfl (fun w1 _ => sD.out w1) ?_
  refine chain_bin (.int .i64 sa) _ _ _ _ _ (.int .i64 si) (.int .i64 sd) (fun _ _ => Below.refl _ _) rfl rfl (by kernel_rfl) (by kernel_rfl) rfl rfl (fun w1 => add_small _ _ _ _ _ _ (by have := E1.out; omega) (by have := E1.out; omega) w1) ?_
  refine chain_load (setV a) _ _ _ (fun _ _ => Below.refl _ _) rfl rfl (by kernel_rfl) (by kernel_rfl) rfl (fun w1 hC => load_set (K3.out.drew.below hC K3.out.lt)) ?_
  refine chain_call (.int .i64 sa) 37 [setV a] _ _ (enters_of Tryd.func37 (by kernel_rfl) rfl) rfl rfl rfl (by kernel_rfl) (by kernel_rfl) rfl rfl (fun w1 _ => sA.out w1) ?_
  refine chain_bin (.bool false) _ _ _ _ _ (.int .i64 sa) (.int .i64 sa) (fun _ _ => Below.refl _ _) rfl rfl (by kernel_rfl) (by kernel_rfl) rfl rfl (fun w => neq_int_same _ _ _ _ w) ?_
  refine chain_pick (.bool false) _ _ _ false (fun _ _ => Below.refl _ _) rfl rfl (by kernel_rfl) (by kernel_rfl) rfl rfl ?_
  refine chain_end (by rfl) ?_
  intro xs W8 hCW8 hreW8
  simp only [layE, List.foldr_cons, List.foldr_nil, List.set_cons_succ, List.set_cons_zero]
  have hC : Below W7.drew.heap.size W7.drew W8 := hCW8
  replace FB := Lib.hid (old_end FB.out hCW8 FB.out.size)
  replace K3 := Lib.hid (K3.out.drew.below hC K3.out.lt)
  replace K4 := Lib.hid (K4.out.drew.below hC K4.out.lt)
  replace K5 := Lib.hid (K5.out.drew.below hC K5.out.lt)
  replace K7 := Lib.hid (K7.out.drew.below hC K7.out.lt)
  replace K8 := Lib.hid (K8.out.drew.below hC K8.out.lt)
  replace K9 := Lib.hid (K9.out.drew.below hC K9.out.lt)
  replace K10 := Lib.hid (K10.out.drew.below hC K10.out.lt)
  replace K11 := Lib.hid (K11.out.drew.below hC K11.out.lt)
  clear hC hCW8 hreW8
  go_upto_region 12 with (fail)
  refine wp_region_old 37 219 (by kernel_rfl) (by kernel_rfl) (by rfl) ?_
  simp only [List.take_succ_cons, List.take_zero, List.drop_succ_cons, List.drop_zero, List.drop_nil]
  refine chain_load (setV a) _ _ _ (fun _ _ => Below.refl _ _) rfl rfl (by kernel_rfl) (by kernel_rfl) rfl (fun w1 hC => load_set (K3.out.drew.below hC K3.out.lt)) ?_
  refine chain_load (setV b) _ _ _ (fun _ _ => Below.refl _ _) rfl rfl (by kernel_rfl) (by kernel_rfl) rfl (fun w1 hC => load_set (K4.out.drew.below hC K4.out.lt)) ?_
  refine chain_call (.bool p) 39 [setV a, setV b] _ _ (enters_of Tryd.func39 (by kernel_rfl) rfl) rfl rfl rfl (by kernel_rfl) (by kernel_rfl) rfl rfl (fun w1 _ => wab.out w1) ?_
  refine chain_load (setV U) _ _ _ (fun _ _ => Below.refl _ _) rfl rfl (by kernel_rfl) (by kernel_rfl) rfl (fun w1 hC => load_set (K7.out.drew.below hC K7.out.lt)) ?_
  refine chain_load (setV b) _ _ _ (fun _ _ => Below.refl _ _) rfl rfl (by kernel_rfl) (by kernel_rfl) rfl (fun w1 hC => load_set (K4.out.drew.below hC K4.out.lt)) ?_
  refine chain_bin (.bool p) _ _ _ _ _ (setV U) (setV b) (fun _ _ => Below.refl _ _) rfl rfl (by kernel_rfl) (by kernel_rfl) rfl rfl (fun w1 => by rw [eql_set, EU.out]) ?_
  refine chain_bin (.bool false) _ _ _ _ _ (.bool p) (.bool p) (fun _ _ => Below.refl _ _) rfl rfl (by kernel_rfl) (by kernel_rfl) rfl rfl (fun w => neq_bool_same _ _ _ w) ?_
  refine chain_move (.bool false) _ (fun _ _ => Below.refl _ _) rfl rfl (by kernel_rfl) (by kernel_rfl) rfl ?_
  refine chain_load (setV a) _ _ _ (fun _ _ => Below.refl _ _) rfl rfl (by kernel_rfl) (by kernel_rfl) rfl (fun w1 hC => load_set (K3.out.drew.below hC K3.out.lt)) ?_
  refine chain_load (setV b) _ _ _ (fun _ _ => Below.refl _ _) rfl rfl (by kernel_rfl) (by kernel_rfl) rfl (fun w1 hC => load_set (K4.out.drew.below hC K4.out.lt)) ?_
  refine chain_call (.bool p) 39 [setV a, setV b] _ _ (enters_of Tryd.func39 (by kernel_rfl) rfl) rfl rfl rfl (by kernel_rfl) (by kernel_rfl) rfl rfl (fun w1 _ => wab.out w1) ?_
  refine chain_load (setV I) _ _ _ (fun _ _ => Below.refl _ _) rfl rfl (by kernel_rfl) (by kernel_rfl) rfl (fun w1 hC => load_set (K9.out.drew.below hC K9.out.lt)) ?_
  refine chain_load (setV a) _ _ _ (fun _ _ => Below.refl _ _) rfl rfl (by kernel_rfl) (by kernel_rfl) rfl (fun w1 hC => load_set (K3.out.drew.below hC K3.out.lt)) ?_
  refine chain_bin (.bool p) _ _ _ _ _ (setV I) (setV a) (fun _ _ => Below.refl _ _) rfl rfl (by kernel_rfl) (by kernel_rfl) rfl rfl (fun w1 => by rw [eql_set, EI.out]) ?_
  refine chain_bin (.bool false) _ _ _ _ _ (.bool p) (.bool p) (fun _ _ => Below.refl _ _) rfl rfl (by kernel_rfl) (by kernel_rfl) rfl rfl (fun w => neq_bool_same _ _ _ w) ?_
  refine chain_pick (.bool false) _ _ _ false (fun _ _ => Below.refl _ _) rfl rfl (by kernel_rfl) (by kernel_rfl) rfl rfl ?_
  refine chain_move (.bool false) _ (fun _ _ => Below.refl _ _) rfl rfl (by kernel_rfl) (by kernel_rfl) rfl ?_
  refine chain_load (setV a) _ _ _ (fun _ _ => Below.refl _ _) rfl rfl (by kernel_rfl) (by kernel_rfl) rfl (fun w1 hC => load_set (K3.out.drew.below hC K3.out.lt)) ?_
  refine chain_load (setV U) _ _ _ (fun _ _ => Below.refl _ _) rfl rfl (by kernel_rfl) (by kernel_rfl) rfl (fun w1 hC => load_set (K7.out.drew.below hC K7.out.lt)) ?_
  refine chain_call (.bool true) 39 [setV a, setV U] _ _ (enters_of Tryd.func39 (by kernel_rfl) rfl) rfl rfl rfl (by kernel_rfl) (by kernel_rfl) rfl rfl (fun w1 _ => waU.out w1) ?_
  refine chain_un (.bool false) _ _ _ (.bool true) (fun _ _ => Below.refl _ _) rfl rfl (by kernel_rfl) (by kernel_rfl) rfl (fun w => un_not _ w) ?_
  refine chain_pick (.bool false) _ _ _ false (fun _ _ => Below.refl _ _) rfl rfl (by kernel_rfl) (by kernel_rfl) rfl rfl ?_
  refine chain_move (.bool false) _ (fun _ _ => Below.refl _ _) rfl rfl (by kernel_rfl) (by kernel_rfl) rfl ?_
  refine chain_load (setV I) _ _ _ (fun _ _ => Below.refl _ _) rfl rfl (by kernel_rfl) (by kernel_rfl) rfl (fun w1 hC => load_set (K9.out.drew.below hC K9.out.lt)) ?_
  refine chain_load (setV a) _ _ _ (fun _ _ => Below.refl _ _) rfl rfl (by kernel_rfl) (by kernel_rfl) rfl (fun w1 hC => load_set (K3.out.drew.below hC K3.out.lt)) ?_
  refine chain_call (.bool true) 39 [setV I, setV a] _ _ (enters_of Tryd.func39 (by kernel_rfl) rfl) rfl rfl rfl (by kernel_rfl) (by kernel_rfl) rfl rfl (fun w1 _ => wIa.out w1) ?_
  refine chain_un (.bool false) _ _ _ (.bool true) (fun _ _ => Below.refl _ _) rfl rfl (by kernel_rfl) (by kernel_rfl) rfl (fun w => un_not _ w) ?_
  refine chain_pick (.bool false) _ _ _ false (fun _ _ => Below.refl _ _) rfl rfl (by kernel_rfl) (by kernel_rfl) rfl rfl ?_
  refine chain_move (.bool false) _ (fun _ _ => Below.refl _ _) rfl rfl (by kernel_rfl) (by kernel_rfl) rfl ?_
  refine chain_load (setV a) _ _ _ (fun _ _ => Below.refl _ _) rfl rfl (by kernel_rfl) (by kernel_rfl) rfl (fun w1 hC => load_set (K3.out.drew.below hC K3.out.lt)) ?_
  refine chain_load (setV b) _ _ _ (fun _ _ => Below.refl _ _) rfl rfl (by kernel_rfl) (by kernel_rfl) rfl (fun w1 hC => load_set (K4.out.drew.below hC K4.out.lt)) ?_
  refine chain_call (.bool m) 41 [setV a, setV b] _ _ (enters_of Tryd.func41 (by kernel_rfl) rfl) rfl rfl rfl (by kernel_rfl) (by kernel_rfl) rfl rfl (fun w1 _ => mab.out w1) ?_
  refine chain_load (setV I) _ _ _ (fun _ _ => Below.refl _ _) rfl rfl (by kernel_rfl) (by kernel_rfl) rfl (fun w1 hC => load_set (K9.out.drew.below hC K9.out.lt)) ?_
  refine chain_val (setV 0) (fun _ _ => Below.refl _ _) rfl (by intro cs b h; cases h) (by kernel_rfl) (by kernel_rfl) (fun w _ => run_build0 rfl w) ?_
  refine chain_bin (.bool m) _ _ _ _ _ (setV I) (setV 0) (fun _ _ => Below.refl _ _) rfl rfl (by kernel_rfl) (by kernel_rfl) rfl rfl (fun w1 => by rw [neq_set, EM.out]) ?_
  refine chain_bin (.bool false) _ _ _ _ _ (.bool m) (.bool m) (fun _ _ => Below.refl _ _) rfl rfl (by kernel_rfl) (by kernel_rfl) rfl rfl (fun w => neq_bool_same _ _ _ w) ?_
  refine chain_pick (.bool false) _ _ _ false (fun _ _ => Below.refl _ _) rfl rfl (by kernel_rfl) (by kernel_rfl) rfl rfl ?_
  refine chain_end (by rfl) ?_
  intro xs W9 hCW9 hreW9
  simp only [layE, List.foldr_cons, List.foldr_nil, List.set_cons_succ, List.set_cons_zero]
  have hC : Below W8.drew.heap.size W8.drew W9 := hCW9
  replace FB := Lib.hid (old_end FB.out hCW9 FB.out.size)
  replace K3 := Lib.hid (K3.out.drew.below hC K3.out.lt)
  replace K4 := Lib.hid (K4.out.drew.below hC K4.out.lt)
  replace K5 := Lib.hid (K5.out.drew.below hC K5.out.lt)
  replace K7 := Lib.hid (K7.out.drew.below hC K7.out.lt)
  replace K8 := Lib.hid (K8.out.drew.below hC K8.out.lt)
  replace K9 := Lib.hid (K9.out.drew.below hC K9.out.lt)
  replace K10 := Lib.hid (K10.out.drew.below hC K10.out.lt)
  replace K11 := Lib.hid (K11.out.drew.below hC K11.out.lt)
  clear hC hCW9 hreW9
  go_upto_region 14 with (fail)
  refine wp_region_old 12 219 (by kernel_rfl) (by kernel_rfl) (by rfl) ?_
  simp only [List.take_succ_cons, List.take_zero, List.drop_succ_cons, List.drop_zero, List.drop_nil]
  refine chain_load (setV a) _ _ _ (fun _ _ => Below.refl _ _) rfl rfl (by kernel_rfl) (by kernel_rfl) rfl (fun w1 hC => load_set (K3.out.drew.below hC K3.out.lt)) ?_
  refine chain_load (setV b) _ _ _ (fun _ _ => Below.refl _ _) rfl rfl (by kernel_rfl) (by kernel_rfl) rfl (fun w1 hC => load_set (K4.out.drew.below hC K4.out.lt)) ?_
  refine chain_call (.int .i64 x) 43 [setV a, setV b] _ _ (enters_of Tryd.func43 (by kernel_rfl) rfl) rfl rfl rfl (by kernel_rfl) (by kernel_rfl) rfl rfl (fun w1 _ => cab.out w1) ?_
  refine chain_load (setV b) _ _ _ (fun _ _ => Below.refl _ _) rfl rfl (by kernel_rfl) (by kernel_rfl) rfl (fun w1 hC => load_set (K4.out.drew.below hC K4.out.lt)) ?_
  refine chain_load (setV c) _ _ _ (fun _ _ => Below.refl _ _) rfl rfl (by kernel_rfl) (by kernel_rfl) rfl (fun w1 hC => load_set (K5.out.drew.below hC K5.out.lt)) ?_
  refine chain_call (.int .i64 y) 43 [setV b, setV c] _ _ (enters_of Tryd.func43 (by kernel_rfl) rfl) rfl rfl rfl (by kernel_rfl) (by kernel_rfl) rfl rfl (fun w1 _ => cbc.out w1) ?_
  refine chain_load (setV a) _ _ _ (fun _ _ => Below.refl _ _) rfl rfl (by kernel_rfl) (by kernel_rfl) rfl (fun w1 hC => load_set (K3.out.drew.below hC K3.out.lt)) ?_
  refine chain_load (setV c) _ _ _ (fun _ _ => Below.refl _ _) rfl rfl (by kernel_rfl) (by kernel_rfl) rfl (fun w1 hC => load_set (K5.out.drew.below hC K5.out.lt)) ?_
  refine chain_call (.int .i64 z) 43 [setV a, setV c] _ _ (enters_of Tryd.func43 (by kernel_rfl) rfl) rfl rfl rfl (by kernel_rfl) (by kernel_rfl) rfl rfl (fun w1 _ => cac.out w1) ?_
  refine chain_assign (.int .i64 x) _ (fun _ _ => Below.refl _ _) rfl rfl (by kernel_rfl) (by kernel_rfl) rfl ?_
  refine chain_assign (.int .i64 y) _ (fun _ _ => Below.refl _ _) rfl rfl (by kernel_rfl) (by kernel_rfl) rfl ?_
  refine chain_assign (.int .i64 z) _ (fun _ _ => Below.refl _ _) rfl rfl (by kernel_rfl) (by kernel_rfl) rfl ?_
  refine chain_end (by rfl) ?_
  intro xs WA hCWA hreWA
  simp only [layE, List.foldr_cons, List.foldr_nil, List.set_cons_succ, List.set_cons_zero]
  have hC : Below W9.drew.heap.size W9.drew WA := hCWA
  replace FB := Lib.hid (old_end FB.out hCWA FB.out.size)
  replace K3 := Lib.hid (K3.out.drew.below hC K3.out.lt)
  replace K4 := Lib.hid (K4.out.drew.below hC K4.out.lt)
  replace K5 := Lib.hid (K5.out.drew.below hC K5.out.lt)
  replace K7 := Lib.hid (K7.out.drew.below hC K7.out.lt)
  replace K8 := Lib.hid (K8.out.drew.below hC K8.out.lt)
  replace K9 := Lib.hid (K9.out.drew.below hC K9.out.lt)
  replace K10 := Lib.hid (K10.out.drew.below hC K10.out.lt)
  replace K11 := Lib.hid (K11.out.drew.below hC K11.out.lt)
  clear hC hCWA hreWA
  clear kab kba jab jba kUc kbc kaY jIc jbc jaY jUc jac kQY kIc kac jSY dab kID mID sU sI sA sB sD waU wIa mab cab cbc cac K5 K7 K8 K9 K10 K11 E1 EU EI EM
  have hx3 : (x = -1 ∧ a < b) ∨ (x = 0 ∧ a = b) ∨ (x = 1 ∧ b < a) := by
    have e := EX.out.1; unfold cmpS at e
    by_cases h1 : a < b
    · rw [if_pos h1] at e; exact .inl ⟨e, h1⟩
    · rw [if_neg h1] at e; split at e <;> omega
  have hy3 : (y = -1 ∧ b < c) ∨ (y = 0 ∧ b = c) ∨ (y = 1 ∧ c < b) := by
    have e := EX.out.2.1; unfold cmpS at e
    by_cases h1 : b < c
    · rw [if_pos h1] at e; exact .inl ⟨e, h1⟩
    · rw [if_neg h1] at e; split at e <;> omega
  have hz3 : (z = -1 ∧ a < c) ∨ (z = 0 ∧ a = c) ∨ (z = 1 ∧ c < a) := by
    have e := EX.out.2.2; unfold cmpS at e
    by_cases h1 : a < c
    · rw [if_pos h1] at e; exact .inl ⟨e, h1⟩
    · rw [if_neg h1] at e; split at e <;> omega
  have EAB2 : eqS a b = (x == 0) := by rw [EX.out.1]; exact EAB.out
  have hp3 : (p = true ∧ a ≤ b) ∨ p = false := by
    cases p with
    | true => exact .inl ⟨rfl, EP.out rfl⟩
    | false => exact .inr rfl
  clear EX EP EAB
  have fin : ∀ V, Below w.heap.size w V → True := fun _ _ => trivial
  obtain ⟨a0, a1, a2, a3, af⟩ := K3.out.set4
  obtain ⟨d0, d1, d2, d3, df⟩ := K4.out.set4
  rcases hp3 with ⟨rfl, hpl⟩ | rfl <;> rcases hx3 with ⟨rfl, h1⟩ | ⟨rfl, h1⟩ | ⟨rfl, h1⟩ <;> rcases hy3 with ⟨rfl, h2⟩ | ⟨rfl, h2⟩ | ⟨rfl, h2⟩ <;> rcases hz3 with ⟨rfl, h3⟩ | ⟨rfl, h3⟩ | ⟨rfl, h3⟩ <;> first | (exfalso; omega) | (try clear hpl)
  all_goals
    simp at EAB2
    clear h1 h2 h3
    go_wp2_with (first | (go_at_call 43; refine (cba.out _).mono ?_; rintro e w2 ⟨rfl, hb2⟩; replace FB := Lib.hid (FB.out.trans (hb2.mono FB.out.size)); replace K3 := Lib.hid (K3.out.below hb2 K3.out.lt); replace K4 := Lib.hid (K4.out.below hb2 K4.out.lt); clear hb2 a0 a1 a2 a3 af d0 d1 d2 d3 df cba; obtain ⟨a0, a1, a2, a3, af⟩ := K3.out.set4; obtain ⟨d0, d1, d2, d3, df⟩ := K4.out.set4) | (go_at_call 39; refine (wab.out _).mono ?_; rintro e w2 ⟨rfl, hb2⟩; replace FB := Lib.hid (FB.out.trans (hb2.mono FB.out.size)); clear hb2))
    go_ret
    exact ⟨rfl, FB.out⟩
end Go.Proofs.YtfeknabddcohoaaDoor
namespace Go.Proofs.YtfeknabddcohoaaDoor
set_option linter.unusedSimpArgs false
set_option linter.unusedVariables false
open Go Go.RowKit Go.ChangeShapes Go.WideShapes Go.ChangeAt

set_option maxRecDepth 100000 in
theorem bitsLattice_lifted (os : Os) (started : os.Started) (H : Type) (enc : TypeId × Value → H) :
    ReturnsInHanded {} Tryd.checked os 9 .any (fun w args => (Rows.bitsLatticeSpec.pre enc Tryd.prog Tryd.f9 [] false w args ∧ laidMetH Tryd.prog laidS w) ∧ sizedMet enc Tryd.prog Tryd.f9 (OpenSpec.ofChange Rows.bitsLatticeSpec) false w args)
      (Rows.bitsLatticeSpec.post enc Tryd.prog Tryd.f9 false true false false) := by
  refine lifted_of started (by kernel_rfl) Tryd.func9
    (ChangeSpec.witness_shaped (enc := enc) (C := Tryd.checked) (os := os) (X := fun w _ => laidMetH Tryd.prog laidS w) false (World.laidAll Tryd.prog os laidS) #[.agg #[.int .u64 0, .int .u64 0, .int .u64 0, .int .u64 0], .agg #[.int .u64 0, .int .u64 0, .int .u64 0, .int .u64 0], .agg #[.int .u64 0, .int .u64 0, .int .u64 0, .int .u64 0]] 8 (World.laidAll_os _ _ _)
      (World.shaped_of_ZipB (by kernel_rfl) (by kernel_rfl)) (by kernel_rfl) (by kernel_rfl) (by kernel_rfl) (laid_met os _)) ?_
  intro W base args ds gs before hg hval0 hW _
  have hval : ∀ (j : Nat) t v, Tryd.f9.params[j]? = some t → args[j]? = some v → Value.okWide Tryd.prog W .any base t v := hval0
  have hW' := hW
  obtain ⟨p, q, hA0, hV, rfl, _, _⟩ := hW
  have hA : DataW.TrodAll enc Tryd.prog W 0 (fun _ => true) true Tryd.f9.params.toList args.toList ds p := hA0
  rw [Tryd.params9] at hA hval
  obtain ⟨v0, v1, v2, d0, d1, d2, p0, p1, p2, rfl, rfl, rfl, h0, h1, h2⟩ := trodAll_three hA
  obtain ⟨rfl, rfl⟩ := trodVars_none hV
  obtain ⟨x0, b0, rfl, rfl, rfl⟩ := open_set (hval 0 _ v0 rfl rfl) h0
  obtain ⟨x1, b1, rfl, rfl, rfl⟩ := open_set (hval 1 _ v1 rfl rfl) h1
  obtain ⟨x2, b2, rfl, rfl, rfl⟩ := open_set (hval 2 _ v2 rfl rfl) h2
  simp only [List.append_nil] at hW'
  refine (bitsLattice_any sane_any x0 x1 x2 W hg b0 b1 b2).mono fun e W' ⟨he, hb⟩ => ?_
  subst he
  exact ⟨_, rfl, _, _, _, [], [], [], hW', trodAll_mk1 (shut_bool Tryd.underlying4 _), trodAll_mk3 (shut_set x0) (shut_set x1) (shut_set x2), rfl, hb.frame _, fun h => by cases h⟩
theorem bitsLattice_holds : Rows.BitsLatticeSaid :=
  OpenClaim.holds_of_wide 9 Tryd.f9 rfl rfl rfl rfl rfl rfl rfl ⟨rfl, rfl, rfl, rfl, rfl⟩ rfl rfl rfl rfl rfl (by kernel_rfl) Tryd.func9 (by kernel_rfl)
    (of_decide_eq_true (by kernel_rfl)) (by unfold Func.isWrapper; first | (rw [if_pos (by decide +kernel)]; kernel_rfl) | (rw [if_neg (by decide +kernel)]; exact ⟨rfl, rfl⟩))
    (fun os started H enc _ => bitsLattice_lifted os started H enc)
theorem bitsLattice_card : Rows.BitsLatticeCardSaid :=
  Claim7.holds_tied_plain_at .later [] [.data, .data, .data, .sentinel, .sentinel] true Rows.bitsLatticeCard.stood.harness true bitsLattice_holds (fun _ h => by cases h) (by kernel_rfl) (fun _ h => by cases h) bitsLattice_row_tie rfl ⟨rfl, rfl⟩ (by kernel_rfl) rfl
    (fun f fn hf hfn => by
      obtain rfl : f = 9 := Option.some.inj ((show Tryd.prog.funcNamed "bonehouse/bonehouselaw01.BitsLattice" = some 9 by kernel_rfl).symm.trans hf) |>.symm
      obtain rfl : fn = Tryd.f9 := (Option.some.inj (Tryd.func9.symm.trans hfn)).symm
      exact ⟨by kernel_rfl, fun j t ht => by
        rw [Tryd.params9] at ht
        have hm : t ∈ [25, 25, 25] := by simpa using Array.mem_of_getElem? ht
        have hall : ([25, 25, 25].all fun u => !Tryd.prog.wantsStandIn u) = true := by kernel_rfl
        exact (show Tryd.prog.wantsStandIn t = false by simpa using List.all_eq_true.1 hall t hm)⟩)
    (by kernel_rfl)
#print axioms bitsLattice_card
end Go.Proofs.YtfeknabddcohoaaDoor
