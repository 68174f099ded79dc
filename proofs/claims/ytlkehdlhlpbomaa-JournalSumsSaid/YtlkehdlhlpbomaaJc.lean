/- Layer 9: entries in memory, and their sum. -/
import Derived.Test.YtlkehdlhlpbomaaJb
import Derived.Laws.BytesArg
import Derived.Laws.IdiomStrings
namespace Go.Proofs.Ytlkehdlhlpbomaa
set_option linter.unusedSimpArgs false
set_option linter.unusedVariables false
open Go Go.RowKit

abbrev Itm := Int × Int × ByteArray
/-- The cells of a slice of entries. -/
def EntsAt (w : World) (a : Option Addr) (ls : List Itm) : Prop := ls = [] ∨ ∃ b o, a = some ⟨b, o, none⟩ ∧ b < w.heap.size ∧ ∀ i e, ls[i]? = some e → w.cell? ⟨b, o + i * 3, none⟩ = some (.int .i64 e.1) ∧ w.cell? ⟨b, o + i * 3 + 1, none⟩ = some (.int .i64 e.2.1) ∧ w.cell? ⟨b, o + i * 3 + 2, none⟩ = some (.string e.2.2)
theorem EntsAt.below {w w' : World} {a : Option Addr} {ls : List Itm} (h : EntsAt w a ls) (hb : Below w.heap.size w w') : EntsAt w' a ls := by
  rcases h with h | ⟨b, o, rfl, hlt, h⟩
  · exact .inl h
  · refine .inr ⟨b, o, rfl, Nat.lt_of_lt_of_le hlt hb.size, fun i e he => ?_⟩
    obtain ⟨h1, h2, h3⟩ := h i e he
    exact ⟨by rw [hb.cell (by exact hlt)]; exact h1, by rw [hb.cell (by exact hlt)]; exact h2, by rw [hb.cell (by exact hlt)]; exact h3⟩
theorem EntsAt.at {w : World} {a : Option Addr} {ls : List Itm} (h : EntsAt w a ls) {i : Nat} (hi : i < ls.length) : ∃ b o, a = some ⟨b, o, none⟩ ∧ b < w.heap.size ∧ w.cell? ⟨b, o + i * 3, none⟩ = some (.int .i64 ls[i].1) ∧ w.cell? ⟨b, o + i * 3 + 1, none⟩ = some (.int .i64 ls[i].2.1) ∧ w.cell? ⟨b, o + i * 3 + 2, none⟩ = some (.string ls[i].2.2) := by
  rcases h with rfl | ⟨b, o, rfl, hlt, h⟩
  · simp at hi
  · exact ⟨b, o, rfl, hlt, h i _ (List.getElem?_eq_getElem hi)⟩
/-- The four bytes ahead of a text, and what a sum becomes with an entry. -/
def hdrB (o n : Int) (m : Nat) : ByteArray := strOfNums [o % 256, n % 256, (m : Int) % 256, (m : Int) / 256 % 256]
def entS (h : Int) (e : Itm) : Int := mixL (mixL h (hdrB e.1 e.2.1 e.2.2.size).data.toList) e.2.2.data.toList
def sumL (l : List Itm) : Int := l.foldl entS 14695981039346656037
theorem sumL_step (l : List Itm) (k : Nat) (hk : k < l.length) : sumL (l.take (k + 1)) = entS (sumL (l.take k)) l[k] := by
  unfold sumL
  rw [← List.take_append_getElem hk, List.foldl_append]
  rfl
theorem cell_hit (w : World) (cs : Array Value) (t : TypeId) (j : Nat) (v : Value) (h : cs[j]? = some v) : (w.alloc (.cells cs t)).cell? ⟨w.heap.size, j, none⟩ = some v := by
  rw [World.cell?_alloc_new]; exact h
theorem conv4 (x0 x1 x2 x3 : Int) (w : World) : (convert 39 9 (.slice (some ⟨w.heap.size, 0, none⟩) 4 4)).run Try.prog (w.alloc (.cells #[.int .u8 x0, .int .u8 x1, .int .u8 x2, .int .u8 x3] 5)) = .ok (.string (strOfNums [x0, x1, x2, x3])) (w.alloc (.cells #[.int .u8 x0, .int .u8 x1, .int .u8 x2, .int .u8 x3] 5)) :=
  run_convert_bytes_arg _ 39 5 Try.underlying39 Try.underlying5 w.heap.size 0 4 4 [x0, x1, x2, x3] rfl (fun i hi => by
    match i, hi with
    | 0, _ => exact cell_hit _ _ _ _ _ rfl
    | 1, _ => exact cell_hit _ _ _ _ _ rfl
    | 2, _ => exact cell_hit _ _ _ _ _ rfl
    | 3, _ => exact cell_hit _ _ _ _ _ rfl) _ Try.underlying9
theorem conv4a (x0 x1 x2 x3 : Int) (w : World) (ob : Obj) : (convert 39 9 (.slice (some ⟨w.heap.size + 1, 0, none⟩) 4 4)).run Try.prog ((w.alloc ob).alloc (.cells #[.int .u8 x0, .int .u8 x1, .int .u8 x2, .int .u8 x3] 5)) = .ok (.string (strOfNums [x0, x1, x2, x3])) ((w.alloc ob).alloc (.cells #[.int .u8 x0, .int .u8 x1, .int .u8 x2, .int .u8 x3] 5)) := by
  have := conv4 x0 x1 x2 x3 (w.alloc ob)
  simpa using this
theorem conv4h (o n : Int) (m : Nat) (w : World) (ob : Obj) : (convert 39 9 (.slice (some ⟨w.heap.size + 1, 0, none⟩) 4 4)).run Try.prog ((w.alloc ob).alloc (.cells #[.int .u8 (o % 256), .int .u8 (n % 256), .int .u8 ((m : Int) % 256), .int .u8 ((m : Int) / 256 % 256)] 5)) = .ok (.string (hdrB o n m)) ((w.alloc ob).alloc (.cells #[.int .u8 (o % 256), .int .u8 (n % 256), .int .u8 ((m : Int) % 256), .int .u8 ((m : Int) / 256 % 256)] 5)) :=
  conv4a _ _ _ _ w ob
theorem size_of_at {w : World} {b o : Nat} {v : Value} (h : w.cell? ⟨b, o, none⟩ = some v) : b < w.heap.size := by
  by_cases hb : b < w.heap.size
  · exact hb
  · have : w.heap[b]? = none := Array.getElem?_eq_none (by omega)
    simp [World.cell?, this] at h
attribute [local go_sem] conv4h
set_option maxRecDepth 100000 in
theorem sum_any (a : Option Addr) (cap : Nat) (ls : List Itm) (w : World) (hls : ∀ e ∈ ls, e.2.2.size ≤ 2500) (hl : ls.length ≤ 1000) (hs : EntsAt w a ls) :
    Calls Try.prog 17 #[.slice a ls.length cap] w fun e w' => e = .returned (.int .u64 (sumL ls)) ∧ Below w.heap.size w w' := by
  have HLS := Lib.hid hls
  have HS := Lib.hid hs
  obtain ⟨n, hn⟩ : ∃ n, n = ls.length := ⟨_, rfl⟩
  rw [← hn] at hl ⊢
  have HN := Lib.hid hn
  clear hls hs hn
  go_enter Try.func17, Try.ntmps17
  go_wp2_with fail
  go_loopw [3, 9] (fun th ti wr => ∃ k : Nat, k ≤ n ∧ ti = .int .i64 k ∧ th = .int .u64 (sumL (ls.take k)) ∧ Hid (Below w.heap.size w wr)) (fun _ ti _ => n - (intOf ti).toNat)
  case atStart => exact ⟨0, by omega, rfl, rfl, Below.refl _ _⟩
  case round =>
    obtain ⟨k, hk, rfl, rfl, HB⟩ := hrel
    obtain ⟨g, hg⟩ : ∃ g, g = sumL (ls.take k) := ⟨_, rfl⟩
    rw [← hg]
    by_cases hlt : k < n
    · have hkl : k < ls.length := by rw [← HN.out]; exact hlt
      have HSZ := Lib.hid (HLS.out _ (List.getElem_mem hkl))
      have HST : Hid (sumL (ls.take (k + 1)) = entS g ls[k]) := by
        rw [Hid, hg, sumL_step _ _ hkl]
      obtain ⟨lb, lo, rfl, hlb, c0, c1, c2⟩ := (HS.out.below HB.out).at hkl
      obtain ⟨x, hx⟩ : ∃ x, x = ls[k] := ⟨_, rfl⟩
      rw [← hx] at HSZ HST c0 c1 c2
      obtain ⟨eo, en, es⟩ := x
      have HM : Hid (∀ h w, Calls Try.prog 47 #[.int .u64 h, .string (hdrB eo en es.size)] w fun e w' => e = .returned (.int .u64 (mixL h (hdrB eo en es.size).data.toList)) ∧ w = w') := Lib.hid fun h w => mix_any h _ w (by unfold hdrB; rw [strOfNums_size]; simp)
      have HM2 : Hid (∀ h w, Calls Try.prog 47 #[.int .u64 h, .string es] w fun e w' => e = .returned (.int .u64 (mixL h es.data.toList)) ∧ w = w') := Lib.hid fun h w => mix_any h _ w (by have := HSZ.out; simp at this; omega)
      clear hg hx hkl
      simp only at c0 c1 c2
      go_wp2_with (first | (go_at_call 47; refine (HM.out _ _).mono ?_; rintro e w5 ⟨rfl, rfl⟩; clear HM) | (go_at_call 47; refine (HM2.out _ _).mono ?_; rintro e w5 ⟨rfl, rfl⟩; clear HM2))
      have hsz := HB.out.size
      exact ⟨⟨k + 1, by omega, by simp, by rw [HST.out, entS], (HB.out.alloc hsz _).alloc (by simp; omega) _⟩, by simp [intOf]; omega⟩
    · have HE : Hid (g = sumL ls) := by
        rw [Hid, hg, List.take_of_length_le (by rw [← HN.out]; omega)]
      clear hg
      go_wp2_with fail
      go_ret
      exact ⟨by rw [HE.out]; rfl, HB.out⟩
end Go.Proofs.Ytlkehdlhlpbomaa
