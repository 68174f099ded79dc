/- Layer 6: Print of the program. -/
import Derived.Test.YtblmlkmibgklpaaGreatDoorYm
namespace Go.Proofs.YtblmlkmibgklpaaGreatDoor
set_option linter.unusedSimpArgs false
set_option linter.unusedVariables false
open Go Go.RowKit

/-- What is asked of Go's library. -/
structure Lb (G : World → Prop) : Prop where
  keep : ∀ w w', G w → Below w.heap.size w w' → G w'
  ito : ∀ (n : Int) (w : World), G w → -9223372036854775808 ≤ n → n ≤ 9223372036854775807 → Calls Tryz.prog 20 #[.int .i64 n] w fun e w' => e = .returned (.string ⟨(Lib.itoa n).toArray⟩) ∧ Below w.heap.size w w'
  join : ∀ (bk o c : Nat) (xs : List ByteArray) (sep : ByteArray) (w : World), (∀ (j : Nat) x, xs[j]? = some x → w.cell? ⟨bk, o + j, none⟩ = some (.string x)) → bk < w.heap.size → xs.length ≤ 140737488355328 → xs.length ≤ c →
    (Lib.join (xs.map (·.data.toList)) sep.data.toList).length ≤ 140737488355328 →
    Calls Tryz.prog 21 #[.slice (some ⟨bk, o, none⟩) xs.length c, .string sep] w fun e w' => e = .returned (.string ⟨(Lib.join (xs.map (·.data.toList)) sep.data.toList).toArray⟩) ∧ Below w.heap.size w w'
  split : ∀ (s : ByteArray) (w : World), G w → s.size ≤ 2000 → Calls Tryz.prog 23 #[.string s, .string ⟨#[32]⟩, .int .i64 32] w fun e w' => ∃ c, e = .returned (.slice (some ⟨w.heap.size, 0, none⟩) (Lib.splitB ⟨#[32]⟩ 0 (min 32 (s.size + 1) - 1) s).length c) ∧ w.heap.size < w'.heap.size ∧ (∀ (j : Nat) x, (Lib.splitB ⟨#[32]⟩ 0 (min 32 (s.size + 1) - 1) s)[j]? = some x → w'.cell? ⟨w.heap.size, 0 + j, none⟩ = some (.string x)) ∧ Below w.heap.size w w'
  ato : ∀ (s : ByteArray) (w : World), G w → s.size ≤ 2000 → Calls Tryz.prog 24 #[.string s] w fun e w' => ∃ x, e = .returned (.tuple #[.int .i64 (atV s.data.toList), x]) ∧ Below w.heap.size w w'
theorem infoStr : (Tryz.prog.info? 9).map (fun i => (i.zero, i.size, i.bytes)) = some (some (.string ⟨#[]⟩), 1, 16) := by kernel_rfl
def bsL (l : List Int) : List ByteArray := l.map fun x => ⟨(Lib.itoa x).toArray⟩
def svL (l : List Int) : List Value := (bsL l).map Value.string
theorem svL_snoc (l : List Int) (x : Int) : svL (l ++ [x]) = svL l ++ [.string ⟨(Lib.itoa x).toArray⟩] := by simp [svL, bsL]
theorem svL_len (l : List Int) : (svL l).length = l.length := by simp [svL, bsL]
theorem bsL_join (l : List Int) : Lib.join ((bsL l).map (·.data.toList)) (⟨#[32]⟩ : ByteArray).data.toList = prn l := by
  unfold prn bsL
  rw [List.map_map]
  congr 1
theorem prn_le {l : List Int} (h : ∀ x ∈ l, 0 ≤ x ∧ x < 100) : (prn l).length ≤ 22 * l.length := by
  cases l with
  | nil => simp [prn, Lib.join_nil]
  | cons x l =>
    have hi : ∀ x, 0 ≤ x → x < 100 → (Lib.itoa x).length ≤ 21 := fun x h0 h1 => Lib.itoa_length_le x (by omega) (by omega)
    have ht : ∀ l : List Int, (∀ x ∈ l, 0 ≤ x ∧ x < 100) → (Lib.joinTail [32] (l.map Lib.itoa)).length ≤ 22 * l.length := fun l => by
      induction l with
      | nil => intro _; simp [Lib.joinTail]
      | cons y l ih =>
        intro h
        have h1 := ih (fun x hx => h x (List.mem_cons_of_mem _ hx))
        have h2 := hi y (h y (by simp)).1 (h y (by simp)).2
        rw [List.map_cons, tail_cons]
        simp only [List.length_cons, List.length_append]
        omega
    have h1 := ht l (fun x hx => h x (List.mem_cons_of_mem _ hx))
    have h2 := hi x (h x (by simp)).1 (h x (by simp)).2
    rw [prn_cons]
    simp only [List.length_cons, List.length_append]
    omega
/-- A slice of texts in memory. -/
theorem own_strs {W : World} {base : Nat} {v : Value} {k : Nat} {l : List Int} (h : W.ownsRow base 9 1 v k (svL l)) (hk : 0 < k) : ∃ g cap, v = .slice (some ⟨g, 0, none⟩) k cap ∧ k = l.length ∧ k ≤ cap ∧ g < W.heap.size ∧ ∀ (j : Nat) x, (bsL l)[j]? = some x → W.cell? ⟨g, 0 + j, none⟩ = some (.string x) := by
  obtain ⟨hl, h⟩ := h
  rw [Nat.mul_one, svL_len] at hl
  rcases h with ⟨rfl, h0⟩ | ⟨g, cap, cur, rfl, hg, hb, h1, h2, h3, h4⟩
  · omega
  · refine ⟨g, cap, rfl, hl.symm, h1, (Array.getElem?_eq_some_iff.1 hb).1, fun j x hi => ?_⟩
    rw [Nat.mul_one] at h4
    have h5 : (svL l)[j]? = some (.string x) := by unfold svL; rw [List.getElem?_map, hi]; rfl
    rw [← h4, List.getElem?_take] at h5
    split at h5
    · rw [Nat.zero_add]
      simp only [World.cell?, hb]
      rw [← Array.getElem?_toList]; exact h5
    · cases h5
structure TS (w : World) (ls : List Int) (k : Nat) (tf : Value) (wr : World) : Prop where
  own : wr.ownsRow w.heap.size 9 1 tf k (svL (ls.take k))
  old : Below w.heap.size w wr
theorem TS.start {w w1 : World} (ls : List Int) (h : Below w.heap.size w w1) : TS w ls 0 (.slice none 0 0) w1 := ⟨World.ownsRow_nil _ _ _ _, h⟩
theorem TS.below {w wr wx : World} {ls : List Int} {k : Nat} {tf : Value} (h : TS w ls k tf wr) (hb : Below wr.heap.size wr wx) : TS w ls k tf wx := by
  refine ⟨⟨h.own.1, h.own.2.imp id fun ⟨g, cap, cur, h1, h2, h3, h4⟩ => ⟨g, cap, cur, h1, h2, (hb.block g (Array.getElem?_eq_some_iff.1 h3).1).trans h3, h4⟩⟩, h.old.trans (hb.mono h.old.size)⟩
theorem TS.add {w wr w6 : World} {ls : List Int} {k : Nat} {x : Int} {tf v2 : Value} (h : TS w ls k tf wr) (hk : ls[k]? = some x)
    (hO : w6.ownsRow w.heap.size 9 1 v2 (k + 1) (svL (ls.take k) ++ [.string ⟨(Lib.itoa x).toArray⟩])) (hg : (wr.alloc (.cells #[.string ⟨(Lib.itoa x).toArray⟩] 9)).grownBy w6 tf.ownBlock) : TS w ls (k + 1) v2 w6 := by
  refine ⟨?_, (h.old.alloc h.old.size _).grown hg (by have := h.old.size; simp; omega) (fun q hq => (World.ownsRow.lt h.own q hq).1)⟩
  have hkl := (List.getElem?_eq_some_iff.1 hk).1
  have e : ls.take (k + 1) = ls.take k ++ [x] := by rw [← List.take_append_getElem hkl, (List.getElem?_eq_some_iff.1 hk).2]
  rw [e, svL_snoc]
  exact hO
def prnR (ls : List Int) : ByteArray := if okP ls then ⟨(prn ls).toArray⟩ else ⟨#[]⟩
set_option maxRecDepth 100000 in
set_option maxHeartbeats 1000000 in
theorem print_any {G : World → Prop} (L : Lb G) (a : Option Addr) (cap : Nat) (ls : List Int) (w : World) (hG : G w) (hl : ls.length ≤ 1000) (hs : IntsAt w a ls) :
    Calls Tryz.prog 5 #[.slice a ls.length cap] w fun e w' => e = .returned (.tuple #[.string (prnR ls), .int .i64 (chkE ls)]) ∧ Below w.heap.size w w' := by
  have HP := Lib.hid (chk_any a cap ls w hl hs)
  have HS := Lib.hid hs
  clear hs
  unfold prnR
  unfold chkE at HP ⊢
  cases hp : okP ls with
  | false =>
    rw [hp] at HP
    obtain ⟨n, hn⟩ : ∃ n, n = ls.length := ⟨_, rfl⟩
    rw [← hn] at HP ⊢
    clear hp hn
    go_enter Tryz.func5, Tryz.ntmps5
    go_wp2_with (first | (go_at_call 19; refine HP.out.mono ?_; rintro e w1 ⟨rfl, hb⟩; simp only [Bool.false_eq_true, if_false]))
    go_ret2
    exact ⟨rfl, hb⟩
  | true =>
    rw [hp] at HP
    simp only [if_true]
    obtain ⟨h0, h32, hx⟩ := okP_ent hp
    have HX := Lib.hid hx
    have HJ : Hid (∀ W v, W.ownsRow w.heap.size 9 1 v ls.length (svL ls) → Calls Tryz.prog 21 #[v, .string ⟨#[32]⟩] W fun e w' => e = .returned (.string ⟨(prn ls).toArray⟩) ∧ Below W.heap.size W w') := fun W v hv => by
      obtain ⟨g, c, rfl, _, hc, hg, hcell⟩ := own_strs hv (List.length_pos_iff.2 h0)
      have hbl : (bsL ls).length = ls.length := by simp [bsL]
      have := L.join g 0 c (bsL ls) ⟨#[32]⟩ W hcell hg (by omega) (by omega) (by rw [bsL_join]; have := prn_le hx; omega)
      rw [bsL_join, hbl] at this
      exact this
    obtain ⟨S, hS⟩ : ∃ S : ByteArray, S = ⟨(prn ls).toArray⟩ := ⟨_, rfl⟩
    rw [← hS] at HJ ⊢
    obtain ⟨n, hn⟩ : ∃ n, n = ls.length := ⟨_, rfl⟩
    rw [← hn] at HP hl HJ ⊢
    have HN := Lib.hid hn
    have HL := Lib.hid L
    have HG := Lib.hid hG
    clear hp hn hS hx h0 h32 L hG
    obtain ⟨i0, hi0, hz0, hz1, hz2⟩ := info_parts infoStr
    go_enter Tryz.func5, Tryz.ntmps5
    go_wp2_with (first | (go_at_call 19; refine HP.out.mono ?_; rintro e w1 ⟨rfl, hb⟩; have HB := Lib.hid hb; clear hb; simp only [if_true]))
    go_loopg [5, 15] n (fun g t5 t15 wr => ∃ k : Nat, k + g = n ∧ t15 = .int .i64 k ∧ Hid (TS w ls k t5 wr))
    case atStart => exact ⟨0, by omega, rfl, TS.start ls HB.out⟩
    case round =>
      obtain ⟨k, hkg, rfl, H⟩ := hrel
      by_cases hlt : k < n
      · have hkl : k < ls.length := by rw [← HN.out]; exact hlt
        obtain ⟨lb, lo, rfl, hlb, c0⟩ := (HS.out.below H.out.old).at hkl
        have HXK := Lib.hid (List.getElem?_eq_getElem hkl)
        have hxb := HX.out _ (List.getElem_mem hkl)
        obtain ⟨x, hx⟩ : ∃ x, x = ls[k] := ⟨_, rfl⟩
        rw [← hx] at c0 HXK hxb
        have HI := Lib.hid (HL.out.ito x wr (HL.out.keep _ _ HG.out H.out.old) (by omega) (by omega))
        obtain ⟨B, hB⟩ : ∃ B : ByteArray, B = ⟨(Lib.itoa x).toArray⟩ := ⟨_, rfl⟩
        rw [← hB] at HI
        have HBB := Lib.hid hB
        clear hx hkl hB
        go_wp2_with (first | (go_at_call 20; refine HI.out.mono ?_; rintro e w2 ⟨rfl, hb⟩; have H2 := Lib.hid (H.out.below hb); clear hb) | (at_builtin; go_loud (refine wpList_append_own _ rfl _ _ 48 rfl w.heap.size 9 i0 (.string ⟨#[]⟩) 1 16 Tryz.underlying48 hi0 hz0 hz1 hz2 rfl (by decide) u5 k (svL (ls.take k)) rfl (H2.out.own.alloc _) ⟨w2.heap.size, 0, none⟩ 1 1 [.string B] rfl rfl (cell_one_new _ _ _) (by simp [Value.oneCell']) (by simp only [maxLen]; omega) (by omega) (by have := H2.out.old.size; simp; omega) ?_; intro v2 w6 hown' hgrow _; have K6 := Lib.hid (H2.out.add HXK.out (by rw [← HBB.out]; exact hown') (by rw [← HBB.out]; exact hgrow)); clear hown' hgrow)))
        go_roundg (gk - 1)
        case measure => omega
        case rel => exact ⟨k + 1, by omega, by simp, K6.out⟩
      · have e : k = n := by omega
        subst e
        have HO : Hid (wr.ownsRow w.heap.size 9 1 u5 k (svL ls)) := by
          have := H.out.own
          rw [List.take_of_length_le (by rw [← HN.out]; omega)] at this
          exact this
        go_wp2_with (first | (go_at_call 21; refine (HJ.out _ _ HO.out).mono ?_; rintro e w3 ⟨rfl, hb⟩))
        go_ret2
        exact ⟨rfl, H.out.old.trans (hb.mono H.out.old.size)⟩
end Go.Proofs.YtblmlkmibgklpaaGreatDoor
