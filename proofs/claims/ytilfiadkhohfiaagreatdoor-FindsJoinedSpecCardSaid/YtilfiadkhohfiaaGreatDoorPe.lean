/- What layer 2 asks of the variables. -/
import Derived.Test.YtilfiadkhohfiaaGreatDoorProg
import Derived.Test.YtilfiadkhohfiaaGreatDoorShelf
import Derived.Lib.LaidTab
import Derived.Lib.ItoaNum
import Derived.Below
import Derived.KernelRfl
/- What layer 2 asks of the package-level variables. -/
namespace Go.Proofs.YtilfiadkhohfiaaGreatDoor
set_option linter.unusedSimpArgs false
set_option linter.unusedVariables false
open Go Go.RowKit

structure Gl (w : World) : Prop where
  tz : TabAt 0 Lib.deBruijn64tab w
  size : 8 ≤ w.heap.size
  pow : Lib.TabIs Tryz.prog w "internal/strconv.uint64pow10" .u64 Lib.pow10Tab
theorem globalPow : Tryz.prog.globalNamed "internal/strconv.uint64pow10" = some 2 := by kernel_rfl
theorem Gl.same {w w' : World} (h : Gl w) (hb : ∀ k, k < 8 → w'.heap[k]? = w.heap[k]?) (hs : w.heap.size ≤ w'.heap.size) : Gl w' where
  tz := fun j hj => by rw [World.cell?_of_block (hb _ (show (0 : Nat) < 8 by omega))]; exact h.tz j hj
  size := Nat.le_trans h.size hs
  pow := by
    have := h.pow
    unfold Lib.TabIs World.var? at *
    simp only [globalPow, Option.bind_some] at *
    rw [hb 2 (by omega)]
    exact this
theorem Gl.below {w w' : World} (h : Gl w) (hb : Below w.heap.size w w') : Gl w' := h.same (fun k hk => hb.block k (Nat.lt_of_lt_of_le hk h.size)) hb.size
theorem Gl.grown {B : Nat} {w w' : World} (h : Gl w) (hB : 8 ≤ B) (hb : Below B w w') : Gl w' := h.same (fun k hk => hb.block k (Nat.lt_of_lt_of_le hk hB)) hb.size
end Go.Proofs.YtilfiadkhohfiaaGreatDoor
