/- Layer 6: Check, Normal, People of the program. -/
import Derived.Test.YteojbichibdhjacGreatDoorPc
namespace Go.Proofs.YteojbichibdhjacGreatDoor
set_option linter.unusedSimpArgs false
set_option linter.unusedVariables false
open Go Go.RowKit

def okP (ls : List Int) : Bool := fromTo ls.length 1 32 && decide (ls = intN (nrmP ls).2)
def chkE (ls : List Int) : Int := if okP ls then 0 else 51
def normR (ls : List Int) : List Int := if fromTo ls.length 1 32 then intN (nrmP ls).2 else []
def normE (ls : List Int) : Int := if fromTo ls.length 1 32 then 0 else 1
def peoR (ls : List Int) : Int := if okP ls then manyL ls else 0
theorem okP_scn {ls : List Int} (h : okP ls = true) : 1 ≤ ls.length ∧ ls.length ≤ 32 ∧ ∃ m, scn ls = some m := by
  unfold okP fromTo at h
  simp only [Bool.and_eq_true, decide_eq_true_eq] at h
  refine ⟨by omega, by omega, ?_⟩
  have := scn_iff ls
  rw [decide_eq_true h.2.symm] at this
  exact Option.isSome_iff_exists.1 this
theorem maxL_fits {ls : List Int} {m : Nat} (h0 : 1 ≤ ls.length) (h : scn ls = some m) : maxL ls + 1 = (m : Int) := by
  rw [← scn_many _ _ h]
  exact maxL_many (by intro e; rw [e] at h0; simp at h0) fun x hx => ((scn_mem _ _ h x).1 hx).1
theorem nrm_full (ls : List Int) : (intN (nrmP ls).2).length = ls.length := by rw [intN_len, (nrm_inv ls).len]
theorem equal_anyN (a1 a2 : Option Addr) (n1 n2 cap1 cap2 : Nat) (l1 l2 : List Int) (w : World) (h1 : n1 = l1.length) (h2 : n2 = l2.length) (hl1 : n1 ≤ 100000) (hl2 : n2 ≤ 100000) (hs1 : IntsAt w a1 l1) (hs2 : IntsAt w a2 l2) :
    Calls Tryz.prog 11 #[.slice a1 n1 cap1, .slice a2 n2 cap2] w fun e w' => e = .returned (.bool (decide (l1 = l2))) ∧ Below w.heap.size w w' := by
  subst h1; subst h2; exact equal_any a1 a2 cap1 cap2 l1 l2 w hl1 hl2 hs1 hs2
set_option maxRecDepth 100000 in
theorem isPart_any (a : Option Addr) (cap : Nat) (ls : List Int) (w : World) (hl : ls.length ≤ 1000) (hs : IntsAt w a ls) :
    Calls Tryz.prog 40 #[.slice a ls.length cap] w fun e w' => e = .returned (.bool (okP ls)) ∧ Below w.heap.size w w' := by
  have HNA : Hid (∀ W, Below w.heap.size w W → Calls Tryz.prog 27 #[.slice a ls.length cap] W fun e w' => ∃ b, e = .returned (.slice (some ⟨b, 0, none⟩) ls.length ls.length) ∧ IntsAt w' (some ⟨b, 0, none⟩) (intN (nrmP ls).2) ∧ Below W.heap.size W w') := fun W hW => normal_any a cap ls W hl (hs.below hW)
  have HEQ : Hid (∀ W b, Below w.heap.size w W → IntsAt W (some ⟨b, 0, none⟩) (intN (nrmP ls).2) → Calls Tryz.prog 11 #[.slice a ls.length cap, .slice (some ⟨b, 0, none⟩) ls.length ls.length] W fun e w' => e = .returned (.bool (decide (ls = intN (nrmP ls).2))) ∧ Below W.heap.size W w') := fun W b hW hi => equal_anyN _ _ _ _ _ _ _ _ W rfl (nrm_full ls).symm (by omega) (by omega) (hs.below hW) hi
  obtain ⟨n, hn⟩ : ∃ n, n = ls.length := ⟨_, rfl⟩
  have HOK : Hid (okP ls = (fromTo n 1 32 && decide (ls = intN (nrmP ls).2))) := by rw [hn]; rfl
  rw [← hn] at hl HNA HEQ ⊢
  rw [HOK.out]
  clear hs hn HOK
  obtain ⟨p, hp⟩ : ∃ p, p = decide (ls = intN (nrmP ls).2) := ⟨_, rfl⟩
  rw [← hp] at HEQ ⊢
  clear hp
  cases hf : fromTo n 1 32 with
  | false =>
    have HF : Hid (∀ W, Calls Tryz.prog 36 #[.int .i64 n] W fun e w' => e = .returned (.bool false) ∧ W = w') := fun W => by have := canBe_any n W; rwa [hf] at this
    clear hf
    go_enter Tryz.func40, Tryz.ntmps40
    go_wp2_with (first | (go_at_call 36; refine (HF.out _).mono ?_; rintro e w' ⟨rfl, rfl⟩))
    go_ret
    exact ⟨rfl, Below.refl _ _⟩
  | true =>
    have HF : Hid (∀ W, Calls Tryz.prog 36 #[.int .i64 n] W fun e w' => e = .returned (.bool true) ∧ W = w') := fun W => by have := canBe_any n W; rwa [hf] at this
    clear hf
    go_enter Tryz.func40, Tryz.ntmps40
    go_wp2_with (first | (go_at_call 36; refine (HF.out _).mono ?_; rintro e w' ⟨rfl, rfl⟩) | (go_at_call 27; refine (HNA.out _ (Below.refl _ _)).mono ?_; rintro e w1 ⟨b, rfl, hi, hb1⟩; have HI := Lib.hid hi; have HB1 := Lib.hid hb1; clear hi hb1) | (go_at_call 11; refine (HEQ.out _ b HB1.out HI.out).mono ?_; rintro e w2 ⟨rfl, hb2⟩; have HB2 := Lib.hid (HB1.out.trans (hb2.mono HB1.out.size)); clear hb2))
    go_ret
    exact ⟨by cases p <;> rfl, HB2.out⟩
set_option maxRecDepth 100000 in
theorem chk_any (a : Option Addr) (cap : Nat) (ls : List Int) (w : World) (hl : ls.length ≤ 1000) (hs : IntsAt w a ls) :
    Calls Tryz.prog 37 #[.slice a ls.length cap] w fun e w' => e = .returned (.int .i64 (chkE ls)) ∧ Below w.heap.size w w' := by
  have HP := Lib.hid (isPart_any a cap ls w hl hs)
  clear hs
  unfold chkE
  obtain ⟨n, hn⟩ : ∃ n, n = ls.length := ⟨_, rfl⟩
  rw [← hn] at HP ⊢
  clear hn
  cases hp : okP ls with
  | false =>
    rw [hp] at HP
    clear hp
    go_enter Tryz.func37, Tryz.ntmps37
    go_wp2_with (first | (go_at_call 40; refine HP.out.mono ?_; rintro e w1 ⟨rfl, hb⟩))
    go_ret
    exact ⟨rfl, hb⟩
  | true =>
    rw [hp] at HP
    clear hp
    go_enter Tryz.func37, Tryz.ntmps37
    go_wp2_with (first | (go_at_call 40; refine HP.out.mono ?_; rintro e w1 ⟨rfl, hb⟩))
    go_ret
    exact ⟨rfl, hb⟩
set_option maxRecDepth 100000 in
theorem norm_any (a : Option Addr) (cap : Nat) (ls : List Int) (w : World) (hl : ls.length ≤ 1000) (hs : IntsAt w a ls) :
    Calls Tryz.prog 17 #[.slice a ls.length cap] w fun e w' => ∃ r c, e = .returned (.tuple #[.slice r (normR ls).length c, .int .i64 (normE ls)]) ∧ IntsAt w' r (normR ls) ∧ Below w.heap.size w w' := by
  have HNA := Lib.hid (normal_any a cap ls w hl hs)
  have HFL := Lib.hid (nrm_full ls)
  clear hs
  unfold normR normE
  obtain ⟨n, hn⟩ : ∃ n, n = ls.length := ⟨_, rfl⟩
  rw [← hn] at HNA HFL ⊢
  cases hf : fromTo n 1 32 with
  | false =>
    have HF : Hid (∀ W, Calls Tryz.prog 36 #[.int .i64 n] W fun e w' => e = .returned (.bool false) ∧ W = w') := fun W => by have := canBe_any n W; rwa [hf] at this
    clear hf hn
    go_enter Tryz.func17, Tryz.ntmps17
    go_wp2_with (first | (go_at_call 36; refine (HF.out _).mono ?_; rintro e w' ⟨rfl, rfl⟩))
    go_ret2
    exact ⟨none, ⟨0, rfl⟩, .inl rfl, Below.refl _ _⟩
  | true =>
    have HF : Hid (∀ W, Calls Tryz.prog 36 #[.int .i64 n] W fun e w' => e = .returned (.bool true) ∧ W = w') := fun W => by have := canBe_any n W; rwa [hf] at this
    clear hf hn
    go_enter Tryz.func17, Tryz.ntmps17
    go_wp2_with (first | (go_at_call 36; refine (HF.out _).mono ?_; rintro e w' ⟨rfl, rfl⟩) | (go_at_call 27; refine HNA.out.mono ?_; rintro e w1 ⟨b, rfl, hi, hb1⟩; have HI := Lib.hid hi; have HB1 := Lib.hid hb1; clear hi hb1))
    go_ret2
    exact ⟨_, ⟨_, by simp only [if_true, HFL.out]; rfl⟩, HI.out, HB1.out⟩
set_option maxRecDepth 100000 in
theorem people_any (a : Option Addr) (cap : Nat) (ls : List Int) (w : World) (h0 : okP ls = true) (hs : IntsAt w a ls) :
    Calls Tryz.prog 72 #[.slice a ls.length cap] w fun e w' => e = .returned (.int .i64 (manyL ls)) ∧ w = w' := by
  obtain ⟨h1, h2, m, hm⟩ := okP_scn h0
  have HX := Lib.hid (max_any a cap ls w (by omega) (by omega) hs)
  have hx := maxL_fits h1 hm
  have hlow := scn_low _ _ hm
  rw [scn_many _ _ hm]
  obtain ⟨x, hx0⟩ : ∃ x, x = maxL ls := ⟨_, rfl⟩
  obtain ⟨n, hn⟩ : ∃ n, n = ls.length := ⟨_, rfl⟩
  rw [← hx0] at hx HX
  rw [← hn] at HX hlow h2 ⊢
  clear hx0 hn hs h0 hm h1
  obtain rfl : x = (m : Int) - 1 := by omega
  go_enter Tryz.func72, Tryz.ntmps72
  go_wp2_with (first | (go_at_call 95; refine HX.out.mono ?_; rintro e w' ⟨rfl, rfl⟩))
  go_ret
  exact ⟨rfl, rfl⟩
end Go.Proofs.YteojbichibdhjacGreatDoor
