/- Layer 6: what the rows list of Go's library, and that sane says yes. -/
import Derived.Test.YteojbichibdhjacGreatDoorWC
import Derived.Test.YteojbichibdhjacGreatDoorPt
import Derived.Test.YteojbichibdhjacGreatDoorShelf2
import Derived.Lib.LaidTab
import Derived.Lib.ItoaNum
import Derived.Lib.AppendIntMem
import Derived.Below
import Derived.KernelRfl
namespace Go.Proofs.YteojbichibdhjacGreatDoor
set_option linter.unusedSimpArgs false
set_option linter.unusedVariables false
open Go Go.RowKit

structure Gl (w : World) : Prop where
  tz : TabAt 2 Lib.deBruijn32tab w
  size : 4 ≤ w.heap.size
  pow : Lib.TabIs Tryz.prog w "internal/strconv.uint64pow10" .u64 Lib.pow10Tab
theorem globalPow : Tryz.prog.globalNamed "internal/strconv.uint64pow10" = some 0 := by kernel_rfl
theorem Gl.same {w w' : World} (h : Gl w) (hb : ∀ k, k < 4 → w'.heap[k]? = w.heap[k]?) (hs : w.heap.size ≤ w'.heap.size) : Gl w' where
  tz := fun j hj => by rw [World.cell?_of_block (hb _ (show (2 : Nat) < 4 by omega))]; exact h.tz j hj
  size := Nat.le_trans h.size hs
  pow := by
    have := h.pow
    unfold Lib.TabIs World.var? at *
    simp only [globalPow, Option.bind_some] at *
    rw [hb 0 (by omega)]
    exact this
theorem Gl.below {w w' : World} (h : Gl w) (hb : Below w.heap.size w w') : Gl w' := h.same (fun k hk => hb.block k (Nat.lt_of_lt_of_le hk h.size)) hb.size
theorem tz_any : Go.Clo.TzC Tryz.prog 126 Gl := fun x w hg hx => tz16_any x hx w (fun _ => hg.tz)
theorem itoa_any : Go.Clo.ItoaC Tryz.prog 38 Gl := fun n w hg h0 h1 =>
  (Tryz.strconv_Itoa n h0 h1 w hg.pow).mono fun e w' ⟨he, k, os, hw⟩ => ⟨he, by rw [hw]; exact Lib.below_grow _ w (Nat.le_refl _) k os⟩
theorem sjoin_any : Go.Clo.JoinC Tryz.prog 39 := fun bk o c xs sep w h1 h2 h3 h4 h5 =>
  Tryz.strings_Join bk o c xs sep w h1 h2 h3 h4 h5
theorem sane_any (w : World) (h : Gl w) : Calls Tryz.prog 4 #[] w fun e w' => e = .returned (.bool true) ∧ Below w.heap.size w w' :=
  sane_from (by kernel_rfl) (fun _ _ h hb => h.below hb) itoa_any sjoin_any tz_any w h
end Go.Proofs.YteojbichibdhjacGreatDoor
