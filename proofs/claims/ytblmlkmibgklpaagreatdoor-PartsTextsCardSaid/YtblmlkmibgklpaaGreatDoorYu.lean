/- Layer 6, PartsTexts: what its row lists of Go's library; sane says yes; what the library answers. -/
import Derived.Test.YtblmlkmibgklpaaGreatDoorVk
import Derived.Test.YtblmlkmibgklpaaGreatDoorPt
import Derived.Test.YtblmlkmibgklpaaGreatDoorYa
import Derived.Test.YtblmlkmibgklpaaGreatDoorShelf2
import Derived.Lib.LaidTab
import Derived.Lib.ItoaNum
import Derived.Lib.AppendIntMem
import Derived.Lib.AtoiErrMem
import Derived.Below
import Derived.KernelRfl
namespace Go.Proofs.YtblmlkmibgklpaaGreatDoor
set_option linter.unusedSimpArgs false
set_option linter.unusedVariables false
open Go Go.RowKit

structure Gl (w : World) : Prop where
  tz : TabAt 6 Lib.deBruijn32tab w
  size : 8 ≤ w.heap.size
  pow : Lib.TabIs Tryz.prog w "internal/strconv.uint64pow10" .u64 Lib.pow10Tab
  syn : ∃ t p, w.cell? ⟨0, 0, none⟩ = some (.iface t p)
  rng : ∃ t p, w.cell? ⟨1, 0, none⟩ = some (.iface t p)
  ml : ∃ m, w.cell? ⟨3, 0, none⟩ = some (.int .i64 m)
theorem globalPow : Tryz.prog.globalNamed "internal/strconv.uint64pow10" = some 2 := by kernel_rfl
theorem Gl.same {w w' : World} (h : Gl w) (hb : ∀ k, k < 8 → w'.heap[k]? = w.heap[k]?) (hs : w.heap.size ≤ w'.heap.size) : Gl w' where
  tz := fun j hj => by rw [World.cell?_of_block (hb _ (show (6 : Nat) < 8 by omega))]; exact h.tz j hj
  size := Nat.le_trans h.size hs
  pow := by
    have := h.pow
    unfold Lib.TabIs World.var? at *
    simp only [globalPow, Option.bind_some] at *
    rw [hb 2 (by omega)]
    exact this
  syn := by rw [World.cell?_of_block (hb _ (show (0 : Nat) < 8 by omega))]; exact h.syn
  rng := by rw [World.cell?_of_block (hb _ (show (1 : Nat) < 8 by omega))]; exact h.rng
  ml := by rw [World.cell?_of_block (hb _ (show (3 : Nat) < 8 by omega))]; exact h.ml
theorem Gl.below {w w' : World} (h : Gl w) (hb : Below w.heap.size w w') : Gl w' := h.same (fun k hk => hb.block k (Nat.lt_of_lt_of_le hk h.size)) hb.size
theorem tz_any : Go.Clo.TzC Tryz.prog 155 Gl := fun x w hg hx => tz16_any x hx w (fun _ => hg.tz)
theorem itoa_any : Go.Clo.ItoaC Tryz.prog 20 Gl := fun n w hg h0 h1 =>
  (Tryz.strconv_Itoa n h0 h1 w hg.pow).mono fun e w' ⟨he, k, os, hw⟩ => ⟨he, by rw [hw]; exact Lib.below_grow _ w (Nat.le_refl _) k os⟩
theorem join_any : Go.Clo.JoinC Tryz.prog 21 := fun bk o c xs sep w h1 h2 h3 h4 h5 =>
  Tryz.strings_Join bk o c xs sep w h1 h2 h3 h4 h5
theorem sane_any (w : World) (h : Gl w) : Calls Tryz.prog 4 #[] w fun e w' => e = .returned (.bool true) ∧ Below w.heap.size w w' :=
  sane_from (by kernel_rfl) (fun _ _ h hb => h.below hb) itoa_any join_any tz_any w h
theorem pieces_at (ws : List ByteArray) (N : Nat) (t : TypeId) (w : World) (j : Nat) (x : ByteArray) (h : ws[j]? = some x) : (w.alloc (.cells (Lib.cellsOf ws N) t)).cell? ⟨w.heap.size, 0 + j, none⟩ = some (.string x) := by
  rw [Nat.zero_add, World.cell?_alloc_new]
  unfold Lib.cellsOf
  have hj := (List.getElem?_eq_some_iff.1 h).1
  rw [List.getElem?_toArray, List.getElem?_append_left (by rw [List.length_map]; exact hj), List.getElem?_map, h]
  rfl
theorem lib_any : Lb Gl where
  keep := fun _ _ h hb => h.below hb
  ito := itoa_any
  join := join_any
  split := fun s w hg hs => by
    obtain ⟨m, hm⟩ := hg.ml
    refine (Tryz.strings_SplitN s ⟨#[32]⟩ 32 m w (by omega) hm (by decide) (by decide) (by decide)).mono ?_
    rintro e w' ⟨rfl, rfl⟩
    exact ⟨_, rfl, by simp, fun j x h => pieces_at _ _ _ _ j x h, (Below.refl _ _).alloc (Nat.le_refl _) _⟩
  ato := fun s w hg hs => by
    obtain ⟨t1, p1, h1⟩ := hg.syn
    obtain ⟨t2, p2, h2⟩ := hg.rng
    cases ha : Lib.atoiAll s.data.toList with
    | ok v =>
      refine (Tryz.strconv_Atoi_ok s (by omega) v ha w).mono ?_
      rintro e w' ⟨rfl, hw⟩
      refine ⟨_, by rw [show atV s.data.toList = v by unfold atV; rw [ha]], ?_⟩
      rcases hw with rfl | ⟨t, rfl⟩
      · exact Below.refl _ _
      · exact Lib.bytesWorld_below _ _ _
    | range =>
      refine (Tryz.strconv_Atoi_range s (by omega) ha _ w h2 (.inr ⟨_, _, rfl⟩)).mono ?_
      rintro e w' ⟨N, rfl, _, _, hb⟩
      exact ⟨_, by rw [show atV s.data.toList = Lib.atoiSat s.data.toList by unfold atV; rw [ha]], hb⟩
    | _ =>
      refine (Tryz.strconv_Atoi_syntax s (by omega) ha _ w h1 (.inr ⟨_, _, rfl⟩)).mono ?_
      rintro e w' ⟨N, rfl, _, _, hb⟩
      exact ⟨_, by rw [show atV s.data.toList = 0 by unfold atV; rw [ha]], hb⟩
end Go.Proofs.YtblmlkmibgklpaaGreatDoor
