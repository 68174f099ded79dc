/- Layer 6: Person of the program. -/
import Derived.Test.YtjcadoodneoehaaGreatDoorPd
namespace Go.Proofs.YtjcadoodneoehaaGreatDoor
set_option linter.unusedSimpArgs false
set_option linter.unusedVariables false
open Go Go.RowKit

def perR (ls : List Int) (p : Int) : List Int := if okP ls then intN (perT ls p ls.length) else []
def perE (ls : List Int) (p : Int) : Int := if okP ls then (if perT ls p ls.length = [] then 1 else 0) else 51
/-- The nodes of a person among the first k, in memory. -/
structure PS (w : World) (ls : List Int) (p : Int) (k : Nat) (tf : Value) (wr : World) : Prop where
  own : wr.ownsRow w.heap.size 3 1 tf (perT ls p k).length (ivL (intN (perT ls p k)))
  old : Below w.heap.size w wr
theorem PS.start {w w1 : World} (ls : List Int) (p : Int) (h : Below w.heap.size w w1) : PS w ls p 0 (.slice none 0 0) w1 := ⟨World.ownsRow_nil _ _ _ _, h⟩
theorem PS.add {w wr w6 : World} {ls : List Int} {p : Int} {k : Nat} {tf v2 : Value} (h : PS w ls p k tf wr) (hk : ls[k]? = some p)
    (hO : w6.ownsRow w.heap.size 3 1 v2 ((perT ls p k).length + 1) (ivL (intN (perT ls p k)) ++ [.int .i64 (k : Int)])) (hg : (wr.alloc (.cells #[.int .i64 (k : Int)] 3)).grownBy w6 tf.ownBlock) : PS w ls p (k + 1) v2 w6 := by
  refine ⟨?_, (h.old.alloc h.old.size _).grown hg (by have := h.old.size; simp; omega) (fun q hq => (World.ownsRow.lt h.own q hq).1)⟩
  rw [perT_yes hk, intN_snoc, ivL_snoc, List.length_append, List.length_singleton]
  exact hO
theorem PS.skip {w wr : World} {ls : List Int} {p : Int} {k : Nat} {tf : Value} (h : PS w ls p k tf wr) (hk : ls[k]? ≠ some p) : PS w ls p (k + 1) tf wr := by
  refine ⟨?_, h.old⟩
  rw [perT_no hk]; exact h.own
set_option maxRecDepth 100000 in
set_option maxHeartbeats 1000000 in
theorem per_any (a : Option Addr) (cap : Nat) (ls : List Int) (p : Int) (w : World) (hl : ls.length ≤ 1000) (hs : IntsAt w a ls) :
    Calls Tryz.prog 9 #[.slice a ls.length cap, .int .i64 p] w fun e w' => ∃ r c, e = .returned (.tuple #[.slice r (perR ls p).length c, .int .i64 (perE ls p)]) ∧ IntsAt w' r (perR ls p) ∧ Below w.heap.size w w' := by
  have HP := Lib.hid (chk_any a cap ls w hl hs)
  have HS := Lib.hid hs
  clear hs
  unfold chkE at HP
  unfold perR perE
  cases hp : okP ls with
  | false =>
    rw [hp] at HP
    obtain ⟨n, hn⟩ : ∃ n, n = ls.length := ⟨_, rfl⟩
    rw [← hn] at HP ⊢
    clear hp hn
    go_enter Tryz.func9, Tryz.ntmps9
    go_wp2_with (first | (go_at_call 11; refine HP.out.mono ?_; rintro e w1 ⟨rfl, hb⟩; simp only [Bool.false_eq_true, if_false]))
    go_ret2
    exact ⟨none, ⟨0, rfl⟩, .inl rfl, hb⟩
  | true =>
    rw [hp] at HP
    simp only [if_true]
    obtain ⟨E, hE⟩ : ∃ E, E = (if perT ls p ls.length = [] then (1 : Int) else 0) := ⟨_, rfl⟩
    obtain ⟨R, hR⟩ : ∃ R, R = intN (perT ls p ls.length) := ⟨_, rfl⟩
    rw [← hE, ← hR]
    have HE := Lib.hid hE
    have HR := Lib.hid hR
    clear hE hR
    obtain ⟨n, hn⟩ : ∃ n, n = ls.length := ⟨_, rfl⟩
    rw [← hn] at HP hl ⊢
    have HN := Lib.hid hn
    clear hp hn
    obtain ⟨i0, hi0, hz0, hz1, hz2⟩ := info_parts infoInt
    go_enter Tryz.func9, Tryz.ntmps9
    go_wp2_with (first | (go_at_call 11; refine HP.out.mono ?_; rintro e w1 ⟨rfl, hb⟩; have HB := Lib.hid hb; clear hb; simp only [if_true]))
    go_loopg [7, 17] n (fun g t7 t17 wr => ∃ k : Nat, k + g = n ∧ t17 = .int .i64 k ∧ Hid (PS w ls p k t7 wr))
    case atStart => exact ⟨0, by omega, rfl, PS.start ls p HB.out⟩
    case round =>
      obtain ⟨k, hkg, rfl, H⟩ := hrel
      by_cases hlt : k < n
      · have hkl : k < ls.length := by rw [← HN.out]; exact hlt
        obtain ⟨lb, lo, rfl, hlb, c0⟩ := (HS.out.below H.out.old).at hkl
        have HX := Lib.hid (List.getElem?_eq_getElem hkl)
        obtain ⟨x, hx⟩ : ∃ x, x = ls[k] := ⟨_, rfl⟩
        rw [← hx] at c0 HX
        obtain ⟨m, hm⟩ : ∃ m, m = (perT ls p k).length := ⟨_, rfl⟩
        have hmk : m ≤ k := by rw [hm]; exact perT_len _ _ _
        have HM := Lib.hid hm
        clear hx hkl hm
        by_cases hxp : x = p
        · subst hxp
          have HO := Lib.hid H.out.own
          rw [← HM.out] at HO
          go_wp2_with (at_builtin; go_loud (refine wpList_append_own _ rfl _ _ 22 rfl w.heap.size 3 i0 (.int .i64 0) 1 8 Tryz.underlying22 hi0 hz0 hz1 hz2 rfl (by decide) u7 m (ivL (intN (perT ls x k))) rfl (HO.out.alloc _) ⟨wr.heap.size, 0, none⟩ 1 1 [.int .i64 k] rfl rfl (cell_one_new _ _ _) (by simp [Value.oneCell']) (by simp only [maxLen]; omega) (by omega) (by have := H.out.old.size; simp; omega) ?_; intro v2 w6 hown' hgrow _; have K6 := Lib.hid (H.out.add HX.out (by rw [← HM.out]; exact hown') hgrow); clear hown' hgrow))
          go_roundg (gk - 1)
          case measure => omega
          case rel => exact ⟨k + 1, by omega, by simp, K6.out⟩
        · have t3 : (x == p) = false := by rw [beq_eq_false_iff_ne]; exact hxp
          have K6 := Lib.hid (H.out.skip (by rw [HX.out]; intro e; exact hxp (by injection e)))
          go_wp2_with fail
          go_roundg (gk - 1)
          case measure => omega
          case rel => exact ⟨k + 1, by omega, by simp, K6.out⟩
      · have e : k = n := by omega
        subst e
        have hpk : perT ls p k = perT ls p ls.length := by rw [← HN.out]
        obtain ⟨T, hT⟩ : ∃ T, T = perT ls p k := ⟨_, rfl⟩
        have hO := H.out.own
        replace HE := Lib.hid HE.out
        rw [← hpk, ← hT] at HE HR
        rw [← hT] at hO
        clear hT hpk
        obtain ⟨fa, fc, rfl, _, hfi⟩ := own_ints hO
        have HI := Lib.hid hfi
        rw [← HR.out] at HI
        clear hfi hO
        cases T with
        | nil =>
          obtain rfl : R = [] := HR.out
          obtain rfl : E = 1 := HE.out
          rw [show (intN []).length = 0 from rfl] at *
          go_wp2_with fail
          go_ret2
          exact ⟨none, ⟨0, rfl⟩, .inl rfl, H.out.old⟩
        | cons y l =>
          obtain rfl : E = 0 := HE.out
          have HL : Hid ((intN (y :: l)).length = l.length + 1) := by simp [Hid, intN]
          have HRL : Hid (R.length = l.length + 1) := by rw [Hid, HR.out]; exact HL.out
          rw [HL.out]
          obtain ⟨q, hq⟩ : ∃ q, q = l.length := ⟨_, rfl⟩
          rw [← hq] at HL HRL ⊢
          clear hq
          have t1 : ((((q + 1 : Nat) : Int)) == 0) = false := by rw [beq_eq_false_iff_ne]; omega
          go_wp2_with fail
          go_ret2
          rw [HRL.out]
          exact ⟨_, _, rfl, HI.out, H.out.old⟩
end Go.Proofs.YtjcadoodneoehaaGreatDoor
