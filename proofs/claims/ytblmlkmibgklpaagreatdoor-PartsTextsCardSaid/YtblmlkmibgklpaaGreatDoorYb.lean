/- Layer 6: Print of the specification; person. -/
import Derived.Test.YtblmlkmibgklpaaGreatDoorYa
import Derived.Test.YtblmlkmibgklpaaGreatDoorNf
namespace Go.Proofs.YtblmlkmibgklpaaGreatDoor
set_option linter.unusedSimpArgs false
set_option linter.unusedVariables false
open Go Go.RowKit

theorem ba_ext {a b : ByteArray} (h : a.data.toList = b.data.toList) : a = b := by
  cases a; cases b
  simp only [ByteArray.mk.injEq]
  exact Array.toList_inj.1 h
def mkB (l : List UInt8) : ByteArray := ⟨l.toArray⟩
theorem mkB_data (l : List UInt8) : (mkB l).data.toList = l := by simp [mkB]
theorem mkB_size (l : List UInt8) : (mkB l).size = l.length := by simp [mkB, ByteArray.size]
theorem mkB_self (b : ByteArray) : mkB b.data.toList = b := ba_ext (mkB_data _)
theorem ba_app (a b : ByteArray) : (a ++ b).data.toList = a.data.toList ++ b.data.toList := by simp
theorem ba_app_size (a b : ByteArray) : (a ++ b).size = a.size + b.size := by simp
theorem mkB_app (a b : List UInt8) : mkB a ++ mkB b = mkB (a ++ b) := ba_ext (by rw [ba_app, mkB_data, mkB_data, mkB_data])
set_option maxRecDepth 100000 in
set_option maxHeartbeats 1000000 in
theorem rprint_any {G : World → Prop} (L : Lb G) (a : Option Addr) (cap : Nat) (ls : List Int) (w : World) (hG : G w) (hl : ls.length ≤ 1000) (hs : IntsAt w a ls) :
    Calls Tryz.prog 6 #[.slice a ls.length cap] w fun e w' => e = .returned (.tuple #[.string (prnR ls), .int .i64 (chkE ls)]) ∧ Below w.heap.size w w' := by
  have HP := Lib.hid (rchk_any a cap ls w (by omega) hs)
  have HS := Lib.hid hs
  clear hs
  unfold prnR
  unfold chkE at HP ⊢
  cases hp : okP ls with
  | false =>
    rw [hp] at HP
    obtain ⟨n, hn⟩ : ∃ n, n = ls.length := ⟨_, rfl⟩
    rw [← hn] at HP ⊢
    clear hp hn
    go_enter Tryz.func6, Tryz.ntmps6
    go_wp2_with (first | (go_at_call 22; refine HP.out.mono ?_; rintro e w1 ⟨rfl, rfl⟩; simp only [Bool.false_eq_true, if_false]))
    go_ret2
    exact ⟨rfl, Below.refl _ _⟩
  | true =>
    rw [hp] at HP
    simp only [if_true]
    obtain ⟨h0, h32, hx⟩ := okP_ent hp
    have HX := Lib.hid hx
    have HLE : Hid (∀ k, (prn (ls.take k)).length ≤ 704) := fun k => by
      have h1 := prn_le (l := ls.take k) (fun x hxm => hx x (List.mem_of_mem_take hxm))
      have h2 : (ls.take k).length ≤ 32 := by rw [List.length_take]; omega
      omega
    obtain ⟨n, hn⟩ : ∃ n, n = ls.length := ⟨_, rfl⟩
    rw [← hn] at HP hl ⊢
    have HN := Lib.hid hn
    have HL := Lib.hid L
    have HG := Lib.hid hG
    clear hp hn hx h0 h32 L hG
    go_enter Tryz.func6, Tryz.ntmps6
    go_wp2_with (first | (go_at_call 22; refine HP.out.mono ?_; rintro e w1 ⟨rfl, rfl⟩; simp only [if_true]))
    go_loopg [5, 6] n (fun g t5 t6 wr => ∃ k : Nat, k + g = n ∧ t6 = .int .i64 k ∧ t5 = .string (mkB (prn (ls.take k))) ∧ Hid (Below w.heap.size w wr))
    case atStart => exact ⟨0, by omega, rfl, rfl, Below.refl _ _⟩
    case round =>
      obtain ⟨k, hkg, rfl, rfl, HB⟩ := hrel
      have hsz := HLE.out k
      rw [← mkB_size] at hsz
      have hsz2 := HLE.out (k + 1)
      by_cases hlt : k < n
      · have hkl : k < ls.length := by rw [← HN.out]; exact hlt
        obtain ⟨lb, lo, rfl, hlb, c0⟩ := (HS.out.below HB.out).at hkl
        have hxb := HX.out _ (List.getElem_mem hkl)
        have htk : ls.take (k + 1) = ls.take k ++ [ls[k]] := by rw [List.take_append_getElem hkl]
        obtain ⟨x, hx⟩ : ∃ x, x = ls[k] := ⟨_, rfl⟩
        rw [← hx] at c0 hxb htk
        have HI := Lib.hid (HL.out.ito x wr (HL.out.keep _ _ HG.out HB.out) (by omega) (by omega))
        have hit : (Lib.itoa x).length ≤ 21 := Lib.itoa_length_le x (by omega) (by omega)
        rw [← mkB_size] at hit
        rw [show (⟨(Lib.itoa x).toArray⟩ : ByteArray) = mkB (Lib.itoa x) from rfl] at HI
        by_cases hk0 : 0 < k
        · have HST : Hid (mkB (prn (ls.take (k + 1))) = mkB (prn (ls.take k)) ++ ⟨#[32]⟩ ++ mkB (Lib.itoa x)) := by
            rw [Hid, htk, prn_snoc _ _ (by intro e; have h := congrArg List.length e; rw [List.length_take, List.length_nil] at h; omega), show (⟨#[32]⟩ : ByteArray) = mkB [32] from rfl, mkB_app, mkB_app]
            congr 1; simp
          obtain ⟨T, hT⟩ : ∃ T, T = mkB (prn (ls.take k)) := ⟨_, rfl⟩
          obtain ⟨B, hB⟩ : ∃ B, B = mkB (Lib.itoa x) := ⟨_, rfl⟩
          rw [← hT] at hsz HST ⊢
          rw [← hB] at hit HST HI
          clear hx hkl hB hT htk hsz2
          have q1 : T.size + 1 ≤ 9223372036854775807 := by omega
          have q2 : T.size + 1 + B.size ≤ 9223372036854775807 := by omega
          have q3 : (⟨#[32]⟩ : ByteArray).size = 1 := rfl
          have q4 : T.size + (⟨#[32]⟩ : ByteArray).size ≤ 9223372036854775807 := by rw [q3]; omega
          have q5 : (T ++ ⟨#[32]⟩).size + B.size ≤ 9223372036854775807 := by rw [ba_app_size, q3]; omega
          go_wp2_with (first | (go_at_call 20; refine HI.out.mono ?_; rintro e w2 ⟨rfl, hb⟩))
          go_roundg (gk - 1)
          case measure => omega
          case rel => exact ⟨k + 1, by omega, by simp, by rw [HST.out], HB.out.trans (hb.mono HB.out.size)⟩
        · obtain rfl : k = 0 := by omega
          rw [Nat.add_zero] at c0
          have HST : Hid (mkB (prn (ls.take (0 + 1))) = mkB (Lib.itoa x)) := by
            rw [Hid, htk, List.take_zero, List.nil_append, prn_one]
          obtain ⟨B, hB⟩ : ∃ B, B = mkB (Lib.itoa x) := ⟨_, rfl⟩
          rw [← hB] at hit HST HI
          clear hx hkl hB htk hsz2
          have e0 : mkB (prn (ls.take 0)) = ⟨#[]⟩ := rfl
          rw [e0] at hsz ⊢
          have q3 : (⟨#[]⟩ : ByteArray).size = 0 := rfl
          have q4 : (⟨#[]⟩ : ByteArray).size + B.size ≤ 9223372036854775807 := by rw [q3]; omega
          have q5 : (⟨#[]⟩ : ByteArray) ++ B = B := ba_ext (by rw [ba_app]; rfl)
          go_wp2_with (first | (go_at_call 20; refine HI.out.mono ?_; rintro e w2 ⟨rfl, hb⟩))
          go_roundg (gk - 1)
          case measure => omega
          case rel => exact ⟨0 + 1, by omega, by simp, by rw [HST.out], HB.out.trans (hb.mono HB.out.size)⟩
      · have e : k = n := by omega
        subst e
        have HE : Hid (mkB (prn (ls.take k)) = ⟨(prn ls).toArray⟩) := by rw [Hid, List.take_of_length_le (by rw [← HN.out]; omega)]; rfl
        rw [HE.out]
        go_wp2_with fail
        go_ret2
        exact ⟨rfl, HB.out⟩
end Go.Proofs.YtblmlkmibgklpaaGreatDoor
