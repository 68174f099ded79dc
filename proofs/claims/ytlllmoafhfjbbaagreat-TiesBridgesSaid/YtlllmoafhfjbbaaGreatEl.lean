/- Layer 4: slices.Concat of two lists of ties. -/
import Derived.Test.YtlllmoafhfjbbaaGreatEk
namespace Go.Proofs.YtlllmoafhfjbbaaGreat
set_option linter.unusedSimpArgs false
set_option linter.unusedVariables false
open Go Go.RowKit

set_option maxRecDepth 100000 in
set_option maxHeartbeats 4000000 in
theorem concatT_any (sb : Nat) (a b : Option Addr) (ca cb : Nat) (A B : List TieD) (w : World) (hA : A.length ≤ 1000) (hB : B.length ≤ 1000) (hs : TiesAt w a A) (ht : TiesAt w b B)
    (hc : Blk w sb [.slice a A.length ca, .slice b B.length cb] 22) :
    Calls Tryz.prog 58 #[.slice (some ⟨sb, 0, none⟩) 2 2] w fun e w' => ∃ v, e = .returned v ∧ w'.ownsRow w.heap.size 33 5 v (A.length + B.length) (tvL A ++ tvL B) ∧ Below w.heap.size w w' := by
  have HS := Lib.hid hs
  have HT := Lib.hid ht
  have HC := Lib.hid hc
  have HG : Hid (Calls Tryz.prog 78 #[.slice none 0 0, .int .i64 (A.length + B.length : Nat)] w fun e w' => ∃ v, e = .returned v ∧ w'.ownsRow w.heap.size 33 5 v 0 [] ∧ Below w.heap.size w w') := growT_any _ w (by omega)
  obtain ⟨la, hla⟩ : ∃ la, la = A.length := ⟨_, rfl⟩
  obtain ⟨lb, hlb⟩ : ∃ lb, lb = B.length := ⟨_, rfl⟩
  have HL : Hid (la = A.length ∧ lb = B.length) := ⟨hla, hlb⟩
  rw [← hla] at hA HC HG ⊢
  rw [← hlb] at hB HC HG ⊢
  clear hs ht hc hla hlb
  obtain ⟨sm, hsm⟩ : ∃ sm : Nat → Nat, sm = fun k => if k = 0 then 0 else if k = 1 then la else la + lb := ⟨_, rfl⟩
  have s0 : sm 0 = 0 := by rw [hsm]; rfl
  have s1 : sm 1 = la := by rw [hsm]; rfl
  have s2 : sm 2 = la + lb := by rw [hsm]; rfl
  have S0 := Lib.hid s0
  have S1 := Lib.hid s1
  have S2 := Lib.hid s2
  clear hsm s0 s1 s2
  obtain ⟨xm, hxm⟩ : ∃ xm : Nat → List Value, xm = fun k => if k = 0 then [] else if k = 1 then tvL A else tvL A ++ tvL B := ⟨_, rfl⟩
  have X0 : Hid (xm 0 = []) := by rw [hxm]; rfl
  have X1 : Hid (xm 1 = tvL A) := by rw [hxm]; rfl
  have X2 : Hid (xm 2 = tvL A ++ tvL B) := by rw [hxm]; rfl
  clear hxm
  go_enter Tryz.func58, Tryz.ntmps58
  go_wp2_with fail
  go_loopg [3, 11] 2 (fun gk t3 t11 wr => ∃ k : Nat, k + gk = 2 ∧ t11 = .int .i64 k ∧ t3 = .int .i64 (sm k : Nat) ∧ Hid (wr = w))
  case atStart => exact ⟨0, rfl, rfl, by rw [S0.out]; rfl, rfl⟩
  case round =>
    obtain ⟨k, hkg, rfl, rfl, HW⟩ := hrel
    have ew := HW.out
    subst ew
    have c0 := HC.out.cell (i := 0) rfl
    have c1 := HC.out.cell (i := 1) rfl
    obtain rfl | rfl | rfl : k = 0 ∨ k = 1 ∨ k = 2 := by omega
    · have e0 := S0.out
      rw [e0]
      clear c1 e0
      have t1 : decide ((la : Int) < 0) = false := decide_eq_false (by omega)
      go_wp2_with fail
      go_roundg (gk - 1)
      case measure => omega
      case rel => exact ⟨1, by omega, rfl, by rw [S1.out], rfl⟩
    · have e0 := S1.out
      rw [e0]
      clear c0 e0
      have t1 : decide ((la : Int) + (lb : Int) < 0) = false := decide_eq_false (by omega)
      go_wp2_with fail
      go_roundg (gk - 1)
      case measure => omega
      case rel => exact ⟨2, by omega, rfl, by rw [S2.out]; simp, rfl⟩
    · have e0 := S2.out
      rw [e0]
      clear c0 c1 e0
      go_wp2_with (first | (go_at_call 78; refine HG.out.mono ?_; rintro e w1 ⟨v1, rfl, ho, hb⟩; clear HG; have HO := Lib.hid ho; have HB1 := Lib.hid hb; clear ho hb))
      obtain ⟨w0, hw0⟩ : ∃ w0, w0 = wr := ⟨_, rfl⟩
      have HW0 := Lib.hid hw0
      go_loopg [6, 27] 2 (fun gk t6 t27 W2 => ∃ k : Nat, k + gk = 2 ∧ t27 = .int .i64 k ∧ Hid (W2.ownsRow w0.heap.size 33 5 t6 (sm k) (xm k)) ∧ Hid (Below w0.heap.size w0 W2))
      case atStart => exact ⟨0, rfl, rfl, by rw [S0.out, X0.out, hw0]; exact HO, by rw [hw0]; exact HB1⟩
      case round =>
        clear HO HB1
        obtain ⟨k, hkg, rfl, HO, HB2⟩ := hrel
        have hC2 : Blk wr sb [.slice a la ca, .slice b lb cb] 22 := by have := HB2.out; rw [hw0] at this; exact HC.out.below this
        have HS2 : Hid (TiesAt wr a A) := by have := HB2.out; rw [hw0] at this; exact HS.out.below this
        have HT2 : Hid (TiesAt wr b B) := by have := HB2.out; rw [hw0] at this; exact HT.out.below this
        clear hw0
        have c0 := hC2.cell (i := 0) rfl
        have c1 := hC2.cell (i := 1) rfl
        clear hC2
        obtain rfl | rfl | rfl : k = 0 ∨ k = 1 ∨ k = 2 := by omega
        · clear c1
          rw [S0.out, X0.out] at HO
          go_wp2_with (first | (at_builtin; go_loud (obtain ⟨v', w', hr, ho, hb⟩ := run_append_ties wr w0.heap.size 0 u6 [] 22 a ca A HO.out HS2.out HB2.out.size (by have := HL.out; omega); rw [← HL.out.1] at hr ho; refine Lib.wpList_append_run _ rfl _ _ _ _ rfl _ _ rfl rfl _ _ hr ?_; clear hr; rw [Nat.zero_add] at ho; have HO3 := Lib.hid ho; have HB3 := Lib.hid (HB2.out.trans hb); clear ho hb)))
          go_roundg (gk - 1)
          case measure => omega
          case rel => exact ⟨1, by omega, rfl, by rw [S1.out, X1.out]; exact HO3.out, HB3⟩
        · clear c0
          rw [S1.out, X1.out] at HO
          go_wp2_with (first | (at_builtin; go_loud (obtain ⟨v', w', hr, ho, hb⟩ := run_append_ties wr w0.heap.size la u6 (tvL A) 22 b cb B HO.out HT2.out HB2.out.size (by have := HL.out; omega); rw [← HL.out.2] at hr ho; refine Lib.wpList_append_run _ rfl _ _ _ _ rfl _ _ rfl rfl _ _ hr ?_; clear hr; have HO3 := Lib.hid ho; have HB3 := Lib.hid (HB2.out.trans hb); clear ho hb)))
          go_roundg (gk - 1)
          case measure => omega
          case rel => exact ⟨2, by omega, rfl, by rw [S2.out, X2.out]; exact HO3.out, HB3⟩
        · rw [S2.out, X2.out] at HO
          clear c0 c1
          go_wp2_with fail
          refine bodyPost_ret (v := u6) (by simp [results, Tryz.results58, go_sem]) rfl ?_
          have e := HW0.out
          subst e
          exact ⟨_, rfl, HO.out, HB2.out⟩
end Go.Proofs.YtlllmoafhfjbbaaGreat
