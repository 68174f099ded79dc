/- Layer 6: Finer and Meet, in both ways. -/
import Derived.Test.YteojbichibdhjacGreatDoorLe
namespace Go.Proofs.YteojbichibdhjacGreatDoor
set_option linter.unusedSimpArgs false
set_option linter.unusedVariables false
open Go Go.RowKit

def finR (la lb : List Int) : Bool := if errB la lb = 0 then finB la lb else false
def meetR (la lb : List Int) : List Int := if errB la lb = 0 then intN (nrmP (codeL la lb)).2 else []
set_option maxRecDepth 100000 in
set_option maxHeartbeats 4000000 in
theorem finer_any (a b : Option Addr) (ca cb : Nat) (la lb : List Int) (w : World) (hla : la.length ≤ 1000) (hlb : lb.length ≤ 1000) (hs : IntsAt w a la) (ht : IntsAt w b lb) :
    Calls Tryz.prog 5 #[.slice a la.length ca, .slice b lb.length cb] w fun e w' => e = .returned (.tuple #[.bool (finR la lb), .int .i64 (errB la lb)]) ∧ Below w.heap.size w w' := by
  have HB0 : Hid (∀ W, Below w.heap.size w W → Calls Tryz.prog 20 #[.slice a la.length ca, .slice b lb.length cb] W fun e w' => e = .returned (.int .i64 (errB la lb)) ∧ Below W.heap.size W w') := fun W hb => both_any a b ca cb la lb W hla hlb (hs.below hb) (ht.below hb)
  unfold finR
  rcases errB_split la lb with ⟨he, h1, h2, h3⟩ | ⟨he, _⟩
  · obtain ⟨g1, g2, g3⟩ := okP_nrm h1
    have hlb2 := h3.symm
    have HM : Hid (∀ W, Below w.heap.size w W → Calls Tryz.prog 21 #[.slice a la.length ca, .slice b lb.length cb] W fun e w' => ∃ g, e = .returned (.slice (some ⟨g, 0, none⟩) la.length la.length) ∧ IntsAt w' (some ⟨g, 0, none⟩) (intN (nrmP (codeL la lb)).2) ∧ Below W.heap.size W w') := fun W hb => by
      have := meet_any a b ca cb la.length la lb W rfl hlb2 g2 (okP_small h2) (hs.below hb) (ht.below hb)
      rw [← hlb2] at this ⊢; rw [hlb2] at this ⊢; exact this
    have HE : Hid (∀ W g, Below w.heap.size w W → IntsAt W (some ⟨g, 0, none⟩) (intN (nrmP (codeL la lb)).2) → Calls Tryz.prog 11 #[.slice (some ⟨g, 0, none⟩) la.length la.length, .slice a la.length ca] W fun e w' => e = .returned (.bool (finB la lb)) ∧ Below W.heap.size W w') := fun W g hb hi =>
      equal_anyN _ _ _ _ _ _ _ _ W (by rw [nrm_full, codeL_len h3]) rfl (by omega) (by omega) hi (hs.below hb)
    rw [he] at HB0 ⊢
    simp only [if_true]
    generalize finB la lb = r at *
    rw [hlb2] at HB0 HM ⊢
    obtain ⟨m, hm⟩ : ∃ m, m = la.length := ⟨_, rfl⟩
    rw [← hm] at HB0 HM HE ⊢
    clear hm hs ht he h1 h2 h3 g1 g2 g3 hlb2 hla hlb
    go_enter Tryz.func5, Tryz.ntmps5
    go_wp2_with (first | (go_at_call 20; refine (HB0.out _ (Below.refl _ _)).mono ?_; rintro e w1 ⟨rfl, hb1⟩; have HB1 := Lib.hid hb1; clear hb1) | (go_at_call 21; refine (HM.out _ HB1.out).mono ?_; rintro e w2 ⟨g, rfl, hi, hb2⟩; have HI := Lib.hid hi; have HB2 := Lib.hid (HB1.out.trans (hb2.mono HB1.out.size)); clear hb2 hi) | (go_at_call 11; refine (HE.out _ _ HB2.out HI.out).mono ?_; rintro e w3 ⟨rfl, hb3⟩; have HB3 := Lib.hid (HB2.out.trans (hb3.mono HB2.out.size)); clear hb3))
    go_ret2
    exact ⟨rfl, HB3.out⟩
  · rw [he] at HB0 ⊢
    rw [if_neg (by decide)]
    clear hs ht he
    go_enter Tryz.func5, Tryz.ntmps5
    go_wp2_with (first | (go_at_call 20; refine (HB0.out _ (Below.refl _ _)).mono ?_; rintro e w1 ⟨rfl, hb1⟩; have HB1 := Lib.hid hb1; clear hb1))
    go_ret2
    exact ⟨rfl, HB1.out⟩
set_option maxRecDepth 100000 in
set_option maxHeartbeats 4000000 in
theorem meetM_any (a b : Option Addr) (ca cb : Nat) (la lb : List Int) (w : World) (hla : la.length ≤ 1000) (hlb : lb.length ≤ 1000) (hs : IntsAt w a la) (ht : IntsAt w b lb) :
    Calls Tryz.prog 7 #[.slice a la.length ca, .slice b lb.length cb] w fun e w' => ∃ r c, e = .returned (.tuple #[.slice r (meetR la lb).length c, .int .i64 (errB la lb)]) ∧ IntsAt w' r (meetR la lb) ∧ Below w.heap.size w w' := by
  have HB0 : Hid (∀ W, Below w.heap.size w W → Calls Tryz.prog 20 #[.slice a la.length ca, .slice b lb.length cb] W fun e w' => e = .returned (.int .i64 (errB la lb)) ∧ Below W.heap.size W w') := fun W hb => both_any a b ca cb la lb W hla hlb (hs.below hb) (ht.below hb)
  unfold meetR
  rcases errB_split la lb with ⟨he, h1, h2, h3⟩ | ⟨he, _⟩
  · obtain ⟨g1, g2, g3⟩ := okP_nrm h1
    have hlb2 := h3.symm
    have HM : Hid (∀ W, Below w.heap.size w W → Calls Tryz.prog 21 #[.slice a la.length ca, .slice b la.length cb] W fun e w' => ∃ g, e = .returned (.slice (some ⟨g, 0, none⟩) la.length la.length) ∧ IntsAt w' (some ⟨g, 0, none⟩) (intN (nrmP (codeL la lb)).2) ∧ Below W.heap.size W w') := fun W hb => meet_any a b ca cb la.length la lb W rfl hlb2 g2 (okP_small h2) (hs.below hb) (ht.below hb)
    have HL : Hid ((intN (nrmP (codeL la lb)).2).length = la.length) := by rw [Hid, nrm_full, codeL_len h3]
    rw [he] at HB0 ⊢
    simp only [if_true, HL.out]
    generalize intN (nrmP (codeL la lb)).2 = r at *
    rw [hlb2] at HB0 ⊢
    obtain ⟨m, hm⟩ : ∃ m, m = la.length := ⟨_, rfl⟩
    rw [← hm] at HB0 HM HL ⊢
    clear hm hs ht he h1 h2 h3 g1 g2 g3 hlb2 hla hlb
    go_enter Tryz.func7, Tryz.ntmps7
    go_wp2_with (first | (go_at_call 20; refine (HB0.out _ (Below.refl _ _)).mono ?_; rintro e w1 ⟨rfl, hb1⟩; have HB1 := Lib.hid hb1; clear hb1) | (go_at_call 21; refine (HM.out _ HB1.out).mono ?_; rintro e w2 ⟨g, rfl, hi, hb2⟩; have HI := Lib.hid hi; have HB2 := Lib.hid (HB1.out.trans (hb2.mono HB1.out.size)); clear hb2 hi))
    go_ret2
    first | exact ⟨_, ⟨_, rfl⟩, HI.out, HB2.out⟩ | exact ⟨_, _, rfl, HI.out, HB2.out⟩
  · rw [he] at HB0 ⊢
    rw [if_neg (by decide)]
    clear hs ht he
    go_enter Tryz.func7, Tryz.ntmps7
    go_wp2_with (first | (go_at_call 20; refine (HB0.out _ (Below.refl _ _)).mono ?_; rintro e w1 ⟨rfl, hb1⟩; have HB1 := Lib.hid hb1; clear hb1))
    go_ret2
    first | exact ⟨none, ⟨0, rfl⟩, .inl rfl, HB1.out⟩ | exact ⟨none, 0, rfl, .inl rfl, HB1.out⟩
set_option maxRecDepth 100000 in
set_option maxHeartbeats 4000000 in
theorem rboth_any (a b : Option Addr) (ca cb : Nat) (la lb : List Int) (w : World) (hla : la.length ≤ 1000) (hlb : lb.length ≤ 1000) (hs : IntsAt w a la) (ht : IntsAt w b lb) :
    Calls Tryz.prog 22 #[.slice a la.length ca, .slice b lb.length cb] w fun e w' => e = .returned (.int .i64 (errB la lb)) ∧ w = w' := by
  have HA : Hid (∀ W, w = W → Calls Tryz.prog 42 #[.slice a la.length ca] W fun e w' => e = .returned (.int .i64 (chkE la)) ∧ W = w') := fun W hb => by subst hb; exact rchk_any a ca la w (by omega) hs
  have HBB : Hid (∀ W, w = W → Calls Tryz.prog 42 #[.slice b lb.length cb] W fun e w' => e = .returned (.int .i64 (chkE lb)) ∧ W = w') := fun W hb => by subst hb; exact rchk_any b cb lb w (by omega) ht
  have hsp := errB_split la lb
  obtain ⟨E, hE⟩ : ∃ E, E = errB la lb := ⟨_, rfl⟩
  rw [← hE] at hsp ⊢
  unfold chkE at HA HBB
  obtain ⟨pa, hpa⟩ : ∃ p, p = okP la := ⟨_, rfl⟩
  obtain ⟨pb, hpb⟩ : ∃ p, p = okP lb := ⟨_, rfl⟩
  rw [← hpa] at HA hsp
  rw [← hpb] at HBB hsp
  obtain ⟨m, hm⟩ : ∃ m, m = la.length := ⟨_, rfl⟩
  obtain ⟨n, hn⟩ : ∃ n, n = lb.length := ⟨_, rfl⟩
  rw [← hm] at HA hsp hla ⊢
  rw [← hn] at HBB hsp hlb ⊢
  clear hs ht hm hn hE hpa hpb
  have go : ∀ (q : Bool), (q = true → m ≠ n) → (q = false → m = n) → E = (if pa && pb && !q then 0 else 51) → Calls Tryz.prog 22 #[.slice a m ca, .slice b n cb] w fun e w' => e = .returned (.int .i64 E) ∧ w = w' := fun q q1 q2 q3 => by
    subst q3
    cases pa <;> cases pb <;> cases q
    all_goals (
      simp only [Bool.false_eq_true, if_false, if_true, Bool.and_true, Bool.and_false, Bool.not_true, Bool.not_false] at HA HBB q1 q2 ⊢
      first | (have e := q2 trivial; subst e) | (have t1 : (m == n) = false := beq_eq_false_iff_ne.2 (q1 trivial); have t2 : ¬ ((m : Int) = (n : Int)) := fun h => q1 trivial (by omega))
      clear q1 q2
      go_enter Tryz.func22, Tryz.ntmps22
      go_wp2_with (first | (go_at_call 42; first | (refine (HA.out _ rfl).mono ?_; rintro e w1 ⟨rfl, rfl⟩; clear HA) | (refine (HBB.out _ rfl).mono ?_; rintro e w2 ⟨rfl, rfl⟩)))
      go_ret
      exact ⟨rfl, rfl⟩)
  have hEE : E = (if pa && pb && !(decide (m ≠ n)) then 0 else 51) := by
    by_cases h : m = n <;> rcases hsp with ⟨rfl, rfl, rfl, h3⟩ | ⟨rfl, rfl | ⟨rfl, rfl⟩ | ⟨rfl, rfl, h3⟩⟩ <;> simp_all
  exact go (decide (m ≠ n)) (fun h => by simpa using h) (fun h => by simpa using h) hEE
end Go.Proofs.YteojbichibdhjacGreatDoor
