/- Layer 2: joins of finds. -/
import Derived.Test.YtilfiadkhohfiaaGreatDoorPx
/- Layer 2: joins of finds, in runs. -/
set_option linter.unusedVariables false
namespace Go.Proofs.YtilfiadkhohfiaaGreatDoor
set_option linter.unusedSimpArgs false
set_option linter.unusedVariables false
open Go Go.RowKit Go.Clo
noncomputable section
def nbO (x : Int) (k : Option V) : Option V := cond (!intBeq x x) (some (.bool false)) k
def nqO (l : List V) (k : Option V) : Option V := cond (rngV l l) (cond (!eqVs l l) (some (.bool false)) k) none
def meaT : List Mea → Option V
  | [] => some (.bool true)
  | m :: l => nqO (meaC [m]) (meaT l)
def sameO (no el sd : Int) (a b d e : Nat) (lo hi sex wear layer square : Int) (l : List Mea) : Option V :=
  nbO no (nbO el (nbO sd (nqO [w64 a, w64 b, w64 d, w64 e] (nqO [i64 lo, i64 hi] (nbO sex (nbO wear (nbO layer (nbO square (meaT l)))))))))
def spanT (lo hi : Int) (is : Bool) : V := .tup [.agg [i64 lo, i64 hi], .bool is]
def spanO (k : Int) : List Mea → Option V
  | [] => some (spanT 0 0 false)
  | x :: l => cond (intBeq x.1 k) (some (spanT (loI x) (hiI x) true)) (spanO k l)
end
set_option maxRecDepth 100000
section
variable (W0 : World) (no el sd : Int) (a b d e : Nat) (lo hi sex wear layer square : Int) (k : Int) (cap cap' : Nat)

theorem sm_nn : valK Tryz.prog (semS Tryz.prog W0 1 noTb) 60 33 [.agg (finL no el sd a b d e .nils lo hi sex wear layer square), .agg (finL no el sd a b d e .nils lo hi sex wear layer square)] (st2 (meaC []) (meaC [])) = sameO no el sd a b d e lo hi sex wear layer square [] := by kernel_rfl
theorem smA_nn : askK Tryz.prog (semS Tryz.prog W0 1 noTb) 60 33 [.agg (finL no el sd a b d e .nils lo hi sex wear layer square), .agg (finL no el sd a b d e .nils lo hi sex wear layer square)] (st2 (meaC []) (meaC [])) false = askK Tryz.prog (semS Tryz.prog W0 1 noTb) 60 33 [.agg (finL no el sd a b d e .nils lo hi sex wear layer square), .agg (finL no el sd a b d e .nils lo hi sex wear layer square)] (st2 (meaC []) (meaC [])) true := by kernel_rfl
theorem sm_ns : valK Tryz.prog (semS Tryz.prog W0 1 noTb) 60 33 [.agg (finL no el sd a b d e .nils lo hi sex wear layer square), .agg (finL no el sd a b d e (.sl 1 0 0 (.exact cap')) lo hi sex wear layer square)] (st2 (meaC []) (meaC [])) = sameO no el sd a b d e lo hi sex wear layer square [] := by kernel_rfl
theorem smA_ns : askK Tryz.prog (semS Tryz.prog W0 1 noTb) 60 33 [.agg (finL no el sd a b d e .nils lo hi sex wear layer square), .agg (finL no el sd a b d e (.sl 1 0 0 (.exact cap')) lo hi sex wear layer square)] (st2 (meaC []) (meaC [])) false = askK Tryz.prog (semS Tryz.prog W0 1 noTb) 60 33 [.agg (finL no el sd a b d e .nils lo hi sex wear layer square), .agg (finL no el sd a b d e (.sl 1 0 0 (.exact cap')) lo hi sex wear layer square)] (st2 (meaC []) (meaC [])) true := by kernel_rfl
theorem sm_sn : valK Tryz.prog (semS Tryz.prog W0 1 noTb) 60 33 [.agg (finL no el sd a b d e (.sl 0 0 0 (.exact cap)) lo hi sex wear layer square), .agg (finL no el sd a b d e .nils lo hi sex wear layer square)] (st2 (meaC []) (meaC [])) = sameO no el sd a b d e lo hi sex wear layer square [] := by kernel_rfl
theorem smA_sn : askK Tryz.prog (semS Tryz.prog W0 1 noTb) 60 33 [.agg (finL no el sd a b d e (.sl 0 0 0 (.exact cap)) lo hi sex wear layer square), .agg (finL no el sd a b d e .nils lo hi sex wear layer square)] (st2 (meaC []) (meaC [])) false = askK Tryz.prog (semS Tryz.prog W0 1 noTb) 60 33 [.agg (finL no el sd a b d e (.sl 0 0 0 (.exact cap)) lo hi sex wear layer square), .agg (finL no el sd a b d e .nils lo hi sex wear layer square)] (st2 (meaC []) (meaC [])) true := by kernel_rfl
theorem sm_0 : valK Tryz.prog (semS Tryz.prog W0 1 noTb) 60 33 [.agg (finL no el sd a b d e (.sl 0 0 0 (.exact cap)) lo hi sex wear layer square), .agg (finL no el sd a b d e (.sl 1 0 0 (.exact cap')) lo hi sex wear layer square)] (st2 (meaC []) (meaC [])) = sameO no el sd a b d e lo hi sex wear layer square [] := by kernel_rfl
theorem smA_0 : askK Tryz.prog (semS Tryz.prog W0 1 noTb) 60 33 [.agg (finL no el sd a b d e (.sl 0 0 0 (.exact cap)) lo hi sex wear layer square), .agg (finL no el sd a b d e (.sl 1 0 0 (.exact cap')) lo hi sex wear layer square)] (st2 (meaC []) (meaC [])) false = askK Tryz.prog (semS Tryz.prog W0 1 noTb) 60 33 [.agg (finL no el sd a b d e (.sl 0 0 0 (.exact cap)) lo hi sex wear layer square), .agg (finL no el sd a b d e (.sl 1 0 0 (.exact cap')) lo hi sex wear layer square)] (st2 (meaC []) (meaC [])) true := by kernel_rfl
theorem sm_1 (x1 : Mea) : valK Tryz.prog (semS Tryz.prog W0 1 noTb) 60 33 [.agg (finL no el sd a b d e (.sl 0 0 1 (.exact cap)) lo hi sex wear layer square), .agg (finL no el sd a b d e (.sl 1 0 1 (.exact cap')) lo hi sex wear layer square)] (st2 (meaC [x1]) (meaC [x1])) = sameO no el sd a b d e lo hi sex wear layer square [x1] := by kernel_rfl
theorem smA_1 (x1 : Mea) : askK Tryz.prog (semS Tryz.prog W0 1 noTb) 60 33 [.agg (finL no el sd a b d e (.sl 0 0 1 (.exact cap)) lo hi sex wear layer square), .agg (finL no el sd a b d e (.sl 1 0 1 (.exact cap')) lo hi sex wear layer square)] (st2 (meaC [x1]) (meaC [x1])) false = askK Tryz.prog (semS Tryz.prog W0 1 noTb) 60 33 [.agg (finL no el sd a b d e (.sl 0 0 1 (.exact cap)) lo hi sex wear layer square), .agg (finL no el sd a b d e (.sl 1 0 1 (.exact cap')) lo hi sex wear layer square)] (st2 (meaC [x1]) (meaC [x1])) true := by kernel_rfl
theorem sm_2 (x1 x2 : Mea) : valK Tryz.prog (semS Tryz.prog W0 1 noTb) 60 33 [.agg (finL no el sd a b d e (.sl 0 0 2 (.exact cap)) lo hi sex wear layer square), .agg (finL no el sd a b d e (.sl 1 0 2 (.exact cap')) lo hi sex wear layer square)] (st2 (meaC [x1, x2]) (meaC [x1, x2])) = sameO no el sd a b d e lo hi sex wear layer square [x1, x2] := by kernel_rfl
theorem smA_2 (x1 x2 : Mea) : askK Tryz.prog (semS Tryz.prog W0 1 noTb) 60 33 [.agg (finL no el sd a b d e (.sl 0 0 2 (.exact cap)) lo hi sex wear layer square), .agg (finL no el sd a b d e (.sl 1 0 2 (.exact cap')) lo hi sex wear layer square)] (st2 (meaC [x1, x2]) (meaC [x1, x2])) false = askK Tryz.prog (semS Tryz.prog W0 1 noTb) 60 33 [.agg (finL no el sd a b d e (.sl 0 0 2 (.exact cap)) lo hi sex wear layer square), .agg (finL no el sd a b d e (.sl 1 0 2 (.exact cap')) lo hi sex wear layer square)] (st2 (meaC [x1, x2]) (meaC [x1, x2])) true := by kernel_rfl
theorem sm_3 (x1 x2 x3 : Mea) : valK Tryz.prog (semS Tryz.prog W0 1 noTb) 60 33 [.agg (finL no el sd a b d e (.sl 0 0 3 (.exact cap)) lo hi sex wear layer square), .agg (finL no el sd a b d e (.sl 1 0 3 (.exact cap')) lo hi sex wear layer square)] (st2 (meaC [x1, x2, x3]) (meaC [x1, x2, x3])) = sameO no el sd a b d e lo hi sex wear layer square [x1, x2, x3] := by kernel_rfl
theorem smA_3 (x1 x2 x3 : Mea) : askK Tryz.prog (semS Tryz.prog W0 1 noTb) 60 33 [.agg (finL no el sd a b d e (.sl 0 0 3 (.exact cap)) lo hi sex wear layer square), .agg (finL no el sd a b d e (.sl 1 0 3 (.exact cap')) lo hi sex wear layer square)] (st2 (meaC [x1, x2, x3]) (meaC [x1, x2, x3])) false = askK Tryz.prog (semS Tryz.prog W0 1 noTb) 60 33 [.agg (finL no el sd a b d e (.sl 0 0 3 (.exact cap)) lo hi sex wear layer square), .agg (finL no el sd a b d e (.sl 1 0 3 (.exact cap')) lo hi sex wear layer square)] (st2 (meaC [x1, x2, x3]) (meaC [x1, x2, x3])) true := by kernel_rfl
theorem sm_4 (x1 x2 x3 x4 : Mea) : valK Tryz.prog (semS Tryz.prog W0 1 noTb) 60 33 [.agg (finL no el sd a b d e (.sl 0 0 4 (.exact cap)) lo hi sex wear layer square), .agg (finL no el sd a b d e (.sl 1 0 4 (.exact cap')) lo hi sex wear layer square)] (st2 (meaC [x1, x2, x3, x4]) (meaC [x1, x2, x3, x4])) = sameO no el sd a b d e lo hi sex wear layer square [x1, x2, x3, x4] := by kernel_rfl
theorem smA_4 (x1 x2 x3 x4 : Mea) : askK Tryz.prog (semS Tryz.prog W0 1 noTb) 60 33 [.agg (finL no el sd a b d e (.sl 0 0 4 (.exact cap)) lo hi sex wear layer square), .agg (finL no el sd a b d e (.sl 1 0 4 (.exact cap')) lo hi sex wear layer square)] (st2 (meaC [x1, x2, x3, x4]) (meaC [x1, x2, x3, x4])) false = askK Tryz.prog (semS Tryz.prog W0 1 noTb) 60 33 [.agg (finL no el sd a b d e (.sl 0 0 4 (.exact cap)) lo hi sex wear layer square), .agg (finL no el sd a b d e (.sl 1 0 4 (.exact cap')) lo hi sex wear layer square)] (st2 (meaC [x1, x2, x3, x4]) (meaC [x1, x2, x3, x4])) true := by kernel_rfl
theorem sm_5 (x1 x2 x3 x4 x5 : Mea) : valK Tryz.prog (semS Tryz.prog W0 1 noTb) 60 33 [.agg (finL no el sd a b d e (.sl 0 0 5 (.exact cap)) lo hi sex wear layer square), .agg (finL no el sd a b d e (.sl 1 0 5 (.exact cap')) lo hi sex wear layer square)] (st2 (meaC [x1, x2, x3, x4, x5]) (meaC [x1, x2, x3, x4, x5])) = sameO no el sd a b d e lo hi sex wear layer square [x1, x2, x3, x4, x5] := by kernel_rfl
theorem smA_5 (x1 x2 x3 x4 x5 : Mea) : askK Tryz.prog (semS Tryz.prog W0 1 noTb) 60 33 [.agg (finL no el sd a b d e (.sl 0 0 5 (.exact cap)) lo hi sex wear layer square), .agg (finL no el sd a b d e (.sl 1 0 5 (.exact cap')) lo hi sex wear layer square)] (st2 (meaC [x1, x2, x3, x4, x5]) (meaC [x1, x2, x3, x4, x5])) false = askK Tryz.prog (semS Tryz.prog W0 1 noTb) 60 33 [.agg (finL no el sd a b d e (.sl 0 0 5 (.exact cap)) lo hi sex wear layer square), .agg (finL no el sd a b d e (.sl 1 0 5 (.exact cap')) lo hi sex wear layer square)] (st2 (meaC [x1, x2, x3, x4, x5]) (meaC [x1, x2, x3, x4, x5])) true := by kernel_rfl
theorem sm_6 (x1 x2 x3 x4 x5 x6 : Mea) : valK Tryz.prog (semS Tryz.prog W0 1 noTb) 60 33 [.agg (finL no el sd a b d e (.sl 0 0 6 (.exact cap)) lo hi sex wear layer square), .agg (finL no el sd a b d e (.sl 1 0 6 (.exact cap')) lo hi sex wear layer square)] (st2 (meaC [x1, x2, x3, x4, x5, x6]) (meaC [x1, x2, x3, x4, x5, x6])) = sameO no el sd a b d e lo hi sex wear layer square [x1, x2, x3, x4, x5, x6] := by kernel_rfl
theorem smA_6 (x1 x2 x3 x4 x5 x6 : Mea) : askK Tryz.prog (semS Tryz.prog W0 1 noTb) 60 33 [.agg (finL no el sd a b d e (.sl 0 0 6 (.exact cap)) lo hi sex wear layer square), .agg (finL no el sd a b d e (.sl 1 0 6 (.exact cap')) lo hi sex wear layer square)] (st2 (meaC [x1, x2, x3, x4, x5, x6]) (meaC [x1, x2, x3, x4, x5, x6])) false = askK Tryz.prog (semS Tryz.prog W0 1 noTb) 60 33 [.agg (finL no el sd a b d e (.sl 0 0 6 (.exact cap)) lo hi sex wear layer square), .agg (finL no el sd a b d e (.sl 1 0 6 (.exact cap')) lo hi sex wear layer square)] (st2 (meaC [x1, x2, x3, x4, x5, x6]) (meaC [x1, x2, x3, x4, x5, x6])) true := by kernel_rfl
theorem sm_7 (x1 x2 x3 x4 x5 x6 x7 : Mea) : valK Tryz.prog (semS Tryz.prog W0 1 noTb) 60 33 [.agg (finL no el sd a b d e (.sl 0 0 7 (.exact cap)) lo hi sex wear layer square), .agg (finL no el sd a b d e (.sl 1 0 7 (.exact cap')) lo hi sex wear layer square)] (st2 (meaC [x1, x2, x3, x4, x5, x6, x7]) (meaC [x1, x2, x3, x4, x5, x6, x7])) = sameO no el sd a b d e lo hi sex wear layer square [x1, x2, x3, x4, x5, x6, x7] := by kernel_rfl
theorem smA_7 (x1 x2 x3 x4 x5 x6 x7 : Mea) : askK Tryz.prog (semS Tryz.prog W0 1 noTb) 60 33 [.agg (finL no el sd a b d e (.sl 0 0 7 (.exact cap)) lo hi sex wear layer square), .agg (finL no el sd a b d e (.sl 1 0 7 (.exact cap')) lo hi sex wear layer square)] (st2 (meaC [x1, x2, x3, x4, x5, x6, x7]) (meaC [x1, x2, x3, x4, x5, x6, x7])) false = askK Tryz.prog (semS Tryz.prog W0 1 noTb) 60 33 [.agg (finL no el sd a b d e (.sl 0 0 7 (.exact cap)) lo hi sex wear layer square), .agg (finL no el sd a b d e (.sl 1 0 7 (.exact cap')) lo hi sex wear layer square)] (st2 (meaC [x1, x2, x3, x4, x5, x6, x7]) (meaC [x1, x2, x3, x4, x5, x6, x7])) true := by kernel_rfl
theorem sm_8 (x1 x2 x3 x4 x5 x6 x7 x8 : Mea) : valK Tryz.prog (semS Tryz.prog W0 1 noTb) 60 33 [.agg (finL no el sd a b d e (.sl 0 0 8 (.exact cap)) lo hi sex wear layer square), .agg (finL no el sd a b d e (.sl 1 0 8 (.exact cap')) lo hi sex wear layer square)] (st2 (meaC [x1, x2, x3, x4, x5, x6, x7, x8]) (meaC [x1, x2, x3, x4, x5, x6, x7, x8])) = sameO no el sd a b d e lo hi sex wear layer square [x1, x2, x3, x4, x5, x6, x7, x8] := by kernel_rfl
theorem smA_8 (x1 x2 x3 x4 x5 x6 x7 x8 : Mea) : askK Tryz.prog (semS Tryz.prog W0 1 noTb) 60 33 [.agg (finL no el sd a b d e (.sl 0 0 8 (.exact cap)) lo hi sex wear layer square), .agg (finL no el sd a b d e (.sl 1 0 8 (.exact cap')) lo hi sex wear layer square)] (st2 (meaC [x1, x2, x3, x4, x5, x6, x7, x8]) (meaC [x1, x2, x3, x4, x5, x6, x7, x8])) false = askK Tryz.prog (semS Tryz.prog W0 1 noTb) 60 33 [.agg (finL no el sd a b d e (.sl 0 0 8 (.exact cap)) lo hi sex wear layer square), .agg (finL no el sd a b d e (.sl 1 0 8 (.exact cap')) lo hi sex wear layer square)] (st2 (meaC [x1, x2, x3, x4, x5, x6, x7, x8]) (meaC [x1, x2, x3, x4, x5, x6, x7, x8])) true := by kernel_rfl
theorem sp_n : valK Tryz.prog (semS Tryz.prog W0 1 noTb) 60 72 [.agg (finL no el sd a b d e .nils lo hi sex wear layer square), i64 k] (roSt (meaC [])) = spanO k [] := by kernel_rfl
theorem spA_n : askK Tryz.prog (semS Tryz.prog W0 1 noTb) 60 72 [.agg (finL no el sd a b d e .nils lo hi sex wear layer square), i64 k] (roSt (meaC [])) false = askK Tryz.prog (semS Tryz.prog W0 1 noTb) 60 72 [.agg (finL no el sd a b d e .nils lo hi sex wear layer square), i64 k] (roSt (meaC [])) true := by kernel_rfl
theorem sp_0 : valK Tryz.prog (semS Tryz.prog W0 1 noTb) 60 72 [.agg (finL no el sd a b d e (.sl 0 0 0 (.exact cap)) lo hi sex wear layer square), i64 k] (roSt (meaC [])) = spanO k [] := by kernel_rfl
theorem spA_0 : askK Tryz.prog (semS Tryz.prog W0 1 noTb) 60 72 [.agg (finL no el sd a b d e (.sl 0 0 0 (.exact cap)) lo hi sex wear layer square), i64 k] (roSt (meaC [])) false = askK Tryz.prog (semS Tryz.prog W0 1 noTb) 60 72 [.agg (finL no el sd a b d e (.sl 0 0 0 (.exact cap)) lo hi sex wear layer square), i64 k] (roSt (meaC [])) true := by kernel_rfl
theorem sp_1 (x1 : Mea) : valK Tryz.prog (semS Tryz.prog W0 1 noTb) 60 72 [.agg (finL no el sd a b d e (.sl 0 0 1 (.exact cap)) lo hi sex wear layer square), i64 k] (roSt (meaC [x1])) = spanO k [x1] := by kernel_rfl
theorem spA_1 (x1 : Mea) : askK Tryz.prog (semS Tryz.prog W0 1 noTb) 60 72 [.agg (finL no el sd a b d e (.sl 0 0 1 (.exact cap)) lo hi sex wear layer square), i64 k] (roSt (meaC [x1])) false = askK Tryz.prog (semS Tryz.prog W0 1 noTb) 60 72 [.agg (finL no el sd a b d e (.sl 0 0 1 (.exact cap)) lo hi sex wear layer square), i64 k] (roSt (meaC [x1])) true := by kernel_rfl
theorem sp_2 (x1 x2 : Mea) : valK Tryz.prog (semS Tryz.prog W0 1 noTb) 60 72 [.agg (finL no el sd a b d e (.sl 0 0 2 (.exact cap)) lo hi sex wear layer square), i64 k] (roSt (meaC [x1, x2])) = spanO k [x1, x2] := by kernel_rfl
theorem spA_2 (x1 x2 : Mea) : askK Tryz.prog (semS Tryz.prog W0 1 noTb) 60 72 [.agg (finL no el sd a b d e (.sl 0 0 2 (.exact cap)) lo hi sex wear layer square), i64 k] (roSt (meaC [x1, x2])) false = askK Tryz.prog (semS Tryz.prog W0 1 noTb) 60 72 [.agg (finL no el sd a b d e (.sl 0 0 2 (.exact cap)) lo hi sex wear layer square), i64 k] (roSt (meaC [x1, x2])) true := by kernel_rfl
theorem sp_3 (x1 x2 x3 : Mea) : valK Tryz.prog (semS Tryz.prog W0 1 noTb) 60 72 [.agg (finL no el sd a b d e (.sl 0 0 3 (.exact cap)) lo hi sex wear layer square), i64 k] (roSt (meaC [x1, x2, x3])) = spanO k [x1, x2, x3] := by kernel_rfl
theorem spA_3 (x1 x2 x3 : Mea) : askK Tryz.prog (semS Tryz.prog W0 1 noTb) 60 72 [.agg (finL no el sd a b d e (.sl 0 0 3 (.exact cap)) lo hi sex wear layer square), i64 k] (roSt (meaC [x1, x2, x3])) false = askK Tryz.prog (semS Tryz.prog W0 1 noTb) 60 72 [.agg (finL no el sd a b d e (.sl 0 0 3 (.exact cap)) lo hi sex wear layer square), i64 k] (roSt (meaC [x1, x2, x3])) true := by kernel_rfl
theorem sp_4 (x1 x2 x3 x4 : Mea) : valK Tryz.prog (semS Tryz.prog W0 1 noTb) 60 72 [.agg (finL no el sd a b d e (.sl 0 0 4 (.exact cap)) lo hi sex wear layer square), i64 k] (roSt (meaC [x1, x2, x3, x4])) = spanO k [x1, x2, x3, x4] := by kernel_rfl
theorem spA_4 (x1 x2 x3 x4 : Mea) : askK Tryz.prog (semS Tryz.prog W0 1 noTb) 60 72 [.agg (finL no el sd a b d e (.sl 0 0 4 (.exact cap)) lo hi sex wear layer square), i64 k] (roSt (meaC [x1, x2, x3, x4])) false = askK Tryz.prog (semS Tryz.prog W0 1 noTb) 60 72 [.agg (finL no el sd a b d e (.sl 0 0 4 (.exact cap)) lo hi sex wear layer square), i64 k] (roSt (meaC [x1, x2, x3, x4])) true := by kernel_rfl
theorem sp_5 (x1 x2 x3 x4 x5 : Mea) : valK Tryz.prog (semS Tryz.prog W0 1 noTb) 60 72 [.agg (finL no el sd a b d e (.sl 0 0 5 (.exact cap)) lo hi sex wear layer square), i64 k] (roSt (meaC [x1, x2, x3, x4, x5])) = spanO k [x1, x2, x3, x4, x5] := by kernel_rfl
theorem spA_5 (x1 x2 x3 x4 x5 : Mea) : askK Tryz.prog (semS Tryz.prog W0 1 noTb) 60 72 [.agg (finL no el sd a b d e (.sl 0 0 5 (.exact cap)) lo hi sex wear layer square), i64 k] (roSt (meaC [x1, x2, x3, x4, x5])) false = askK Tryz.prog (semS Tryz.prog W0 1 noTb) 60 72 [.agg (finL no el sd a b d e (.sl 0 0 5 (.exact cap)) lo hi sex wear layer square), i64 k] (roSt (meaC [x1, x2, x3, x4, x5])) true := by kernel_rfl
theorem sp_6 (x1 x2 x3 x4 x5 x6 : Mea) : valK Tryz.prog (semS Tryz.prog W0 1 noTb) 60 72 [.agg (finL no el sd a b d e (.sl 0 0 6 (.exact cap)) lo hi sex wear layer square), i64 k] (roSt (meaC [x1, x2, x3, x4, x5, x6])) = spanO k [x1, x2, x3, x4, x5, x6] := by kernel_rfl
theorem spA_6 (x1 x2 x3 x4 x5 x6 : Mea) : askK Tryz.prog (semS Tryz.prog W0 1 noTb) 60 72 [.agg (finL no el sd a b d e (.sl 0 0 6 (.exact cap)) lo hi sex wear layer square), i64 k] (roSt (meaC [x1, x2, x3, x4, x5, x6])) false = askK Tryz.prog (semS Tryz.prog W0 1 noTb) 60 72 [.agg (finL no el sd a b d e (.sl 0 0 6 (.exact cap)) lo hi sex wear layer square), i64 k] (roSt (meaC [x1, x2, x3, x4, x5, x6])) true := by kernel_rfl
theorem sp_7 (x1 x2 x3 x4 x5 x6 x7 : Mea) : valK Tryz.prog (semS Tryz.prog W0 1 noTb) 60 72 [.agg (finL no el sd a b d e (.sl 0 0 7 (.exact cap)) lo hi sex wear layer square), i64 k] (roSt (meaC [x1, x2, x3, x4, x5, x6, x7])) = spanO k [x1, x2, x3, x4, x5, x6, x7] := by kernel_rfl
theorem spA_7 (x1 x2 x3 x4 x5 x6 x7 : Mea) : askK Tryz.prog (semS Tryz.prog W0 1 noTb) 60 72 [.agg (finL no el sd a b d e (.sl 0 0 7 (.exact cap)) lo hi sex wear layer square), i64 k] (roSt (meaC [x1, x2, x3, x4, x5, x6, x7])) false = askK Tryz.prog (semS Tryz.prog W0 1 noTb) 60 72 [.agg (finL no el sd a b d e (.sl 0 0 7 (.exact cap)) lo hi sex wear layer square), i64 k] (roSt (meaC [x1, x2, x3, x4, x5, x6, x7])) true := by kernel_rfl
theorem sp_8 (x1 x2 x3 x4 x5 x6 x7 x8 : Mea) : valK Tryz.prog (semS Tryz.prog W0 1 noTb) 60 72 [.agg (finL no el sd a b d e (.sl 0 0 8 (.exact cap)) lo hi sex wear layer square), i64 k] (roSt (meaC [x1, x2, x3, x4, x5, x6, x7, x8])) = spanO k [x1, x2, x3, x4, x5, x6, x7, x8] := by kernel_rfl
theorem spA_8 (x1 x2 x3 x4 x5 x6 x7 x8 : Mea) : askK Tryz.prog (semS Tryz.prog W0 1 noTb) 60 72 [.agg (finL no el sd a b d e (.sl 0 0 8 (.exact cap)) lo hi sex wear layer square), i64 k] (roSt (meaC [x1, x2, x3, x4, x5, x6, x7, x8])) false = askK Tryz.prog (semS Tryz.prog W0 1 noTb) 60 72 [.agg (finL no el sd a b d e (.sl 0 0 8 (.exact cap)) lo hi sex wear layer square), i64 k] (roSt (meaC [x1, x2, x3, x4, x5, x6, x7, x8])) true := by kernel_rfl
end
variable {W : World}
theorem nbO_eq (x : Int) (k : Option V) : nbO x k = k := by
  unfold nbO
  rw [(intBeq_iff x x).2 rfl]; rfl
theorem eqVs_self : ∀ {l : List V}, (∀ v ∈ l, ∃ k n, v = .int k n) → eqVs l l = true
  | [], _ => rfl
  | v :: l, h => by
    obtain ⟨k, n, rfl⟩ := h v (.head _)
    show (intBeq n n && eqVs l l) = true
    rw [(intBeq_iff n n).2 rfl, eqVs_self fun w hw => h w (.tail _ hw)]; rfl
theorem nqO_eq {l : List V} (h : ∀ v ∈ l, ∃ k n, v = .int k n) (hr : rngV l l = true) (k : Option V) : nqO l k = k := by
  unfold nqO
  rw [hr, eqVs_self h]; rfl
theorem okV_R64 {x : Mea} (h : okV x) : R64 x.1 ∧ R64 x.2.1 ∧ R64 x.2.2 := by
  obtain ⟨h1, h2, h3, h4, h5, h6⟩ := h
  exact ⟨R64.of (by omega), R64.of (by omega), R64.of (by omega)⟩
theorem meaT_eq : ∀ {l : List Mea}, (∀ x ∈ l, okV x) → meaT l = some (.bool true)
  | [], _ => rfl
  | m :: l, h => by
    obtain ⟨h1, h2, h3⟩ := okV_R64 (h m (.head _))
    show nqO (meaC [m]) (meaT l) = _
    rw [nqO_eq (fun v hv => ?_) (show rngV (meaC [m]) (meaC [m]) = true from rngV_cons h1 h1 (rngV_cons h2 h2 (rngV_cons h3 h3 rfl))), meaT_eq fun x hx => h x (.tail _ hx)]
    simp only [meaC, List.mem_cons, List.not_mem_nil, or_false] at hv
    rcases hv with rfl | rfl | rfl <;> exact ⟨_, _, rfl⟩
theorem sameO_eq {f : Fd} (hf : f.OK) (hv : f.Valid) : sameO f.no f.el f.sd f.a f.b f.d f.e f.lo f.hi f.sex f.wear f.layer f.square f.l = some (.bool true) := by
  have hlo : R64 f.lo ∧ R64 f.hi := by
    obtain ⟨_, _, _, _, _, _, _, h1, h2, h3, _⟩ := hv
    exact ⟨R64.of (by omega), R64.of (by omega)⟩
  unfold sameO
  rw [nbO_eq, nbO_eq, nbO_eq, nqO_eq (fun v hv => ?_) (rngV_consU (RU.of hf.a) (RU.of hf.a) (rngV_consU (RU.of hf.b) (RU.of hf.b) (rngV_consU (RU.of hf.d) (RU.of hf.d) (rngV_consU (RU.of hf.e) (RU.of hf.e) rfl)))), nqO_eq (fun v hv => ?_) (rngV_cons hlo.1 hlo.1 (rngV_cons hlo.2 hlo.2 rfl)), nbO_eq, nbO_eq, nbO_eq, nbO_eq, meaT_eq hv.list.2.2]
  · simp only [List.mem_cons, List.not_mem_nil, or_false] at hv
    rcases hv with rfl | rfl <;> exact ⟨_, _, rfl⟩
  · simp only [List.mem_cons, List.not_mem_nil, or_false] at hv
    rcases hv with rfl | rfl | rfl | rfl <;> exact ⟨_, _, rfl⟩
/-- The find with another list in memory. -/
def Fd.at_ (f : Fd) (oc : Option Nat) : Fd := { f with oc := oc }
/-- Same says yes of one find in two places. -/
theorem same_calls (hmix : Tryz.prog.follows .mixedOrders = true) {f : Fd} {oc' : Option Nat} (hf : f.OK) (hv : f.Valid) (ho' : oc' = none → f.l = []) {ms ms' : Value} (hm : MeaAt W ms f.oc f.l) (hm' : MeaAt W ms' oc' f.l) :
    Calls Tryz.prog 33 #[f.U ms, f.U ms'] W fun e w' => e = .returned (.bool true) ∧ Below W.heap.size W w' := by
  have fin : valK Tryz.prog (semS Tryz.prog W 1 noTb) 60 33 [f.iv 0, (f.at_ oc').iv 1] (st2 (meaC f.l) (meaC f.l)) = sameO f.no f.el f.sd f.a f.b f.d f.e f.lo f.hi f.sex f.wear f.layer f.square f.l →
      askK Tryz.prog (semS Tryz.prog W 1 noTb) 60 33 [f.iv 0, (f.at_ oc').iv 1] (st2 (meaC f.l) (meaC f.l)) false = askK Tryz.prog (semS Tryz.prog W 1 noTb) 60 33 [f.iv 0, (f.at_ oc').iv 1] (st2 (meaC f.l) (meaC f.l)) true → Calls Tryz.prog 33 #[f.U ms, f.U ms'] W fun e w' => e = .returned (.bool true) ∧ Below W.heap.size W w' := by
    intro hr ha
    refine (pair_calls hmix semS_ok (f := f) (g := f.at_ oc') (xs := []) (ys := []) (fun ρ => EL.nil) (hr.trans (sameO_eq hf hv)) ha hm hm').mono ?_
    rintro e w' ⟨ρ', u, rfl, hb, hE⟩
    exact ⟨by rw [E_bool_inv hE], hb⟩
  have hlen := hv.list.1
  obtain ⟨no, el, sd, a, b, d, e, lo, hi, sex, wear, layer, square, oc, l⟩ := f
  cases oc with
  | none =>
    have hl : l = [] := hf.ho rfl
    subst hl
    cases oc' with
    | none => exact fin (sm_nn W no el sd a b d e lo hi sex wear layer square) (smA_nn W no el sd a b d e lo hi sex wear layer square)
    | some cap' => exact fin (sm_ns W no el sd a b d e lo hi sex wear layer square cap') (smA_ns W no el sd a b d e lo hi sex wear layer square cap')
  | some cap =>
    cases oc' with
    | none =>
      have hl : l = [] := ho' rfl
      subst hl
      exact fin (sm_sn W no el sd a b d e lo hi sex wear layer square cap) (smA_sn W no el sd a b d e lo hi sex wear layer square cap)
    | some cap' =>
      clear hf hv ho' hm hm'
      match l, fin, hlen with
      | [], fin, _ => exact fin (sm_0 W no el sd a b d e lo hi sex wear layer square cap cap' ) (smA_0 W no el sd a b d e lo hi sex wear layer square cap cap' )
      | [x1], fin, _ => exact fin (sm_1 W no el sd a b d e lo hi sex wear layer square cap cap' x1) (smA_1 W no el sd a b d e lo hi sex wear layer square cap cap' x1)
      | [x1, x2], fin, _ => exact fin (sm_2 W no el sd a b d e lo hi sex wear layer square cap cap' x1 x2) (smA_2 W no el sd a b d e lo hi sex wear layer square cap cap' x1 x2)
      | [x1, x2, x3], fin, _ => exact fin (sm_3 W no el sd a b d e lo hi sex wear layer square cap cap' x1 x2 x3) (smA_3 W no el sd a b d e lo hi sex wear layer square cap cap' x1 x2 x3)
      | [x1, x2, x3, x4], fin, _ => exact fin (sm_4 W no el sd a b d e lo hi sex wear layer square cap cap' x1 x2 x3 x4) (smA_4 W no el sd a b d e lo hi sex wear layer square cap cap' x1 x2 x3 x4)
      | [x1, x2, x3, x4, x5], fin, _ => exact fin (sm_5 W no el sd a b d e lo hi sex wear layer square cap cap' x1 x2 x3 x4 x5) (smA_5 W no el sd a b d e lo hi sex wear layer square cap cap' x1 x2 x3 x4 x5)
      | [x1, x2, x3, x4, x5, x6], fin, _ => exact fin (sm_6 W no el sd a b d e lo hi sex wear layer square cap cap' x1 x2 x3 x4 x5 x6) (smA_6 W no el sd a b d e lo hi sex wear layer square cap cap' x1 x2 x3 x4 x5 x6)
      | [x1, x2, x3, x4, x5, x6, x7], fin, _ => exact fin (sm_7 W no el sd a b d e lo hi sex wear layer square cap cap' x1 x2 x3 x4 x5 x6 x7) (smA_7 W no el sd a b d e lo hi sex wear layer square cap cap' x1 x2 x3 x4 x5 x6 x7)
      | [x1, x2, x3, x4, x5, x6, x7, x8], fin, _ => exact fin (sm_8 W no el sd a b d e lo hi sex wear layer square cap cap' x1 x2 x3 x4 x5 x6 x7 x8) (smA_8 W no el sd a b d e lo hi sex wear layer square cap cap' x1 x2 x3 x4 x5 x6 x7 x8)
      | x1 :: x2 :: x3 :: x4 :: x5 :: x6 :: x7 :: x8 :: x9 :: r, fin, hlen => have hlen : (x1 :: x2 :: x3 :: x4 :: x5 :: x6 :: x7 :: x8 :: x9 :: r).length ≤ 8 := hlen; simp only [List.length_cons] at hlen; omega
/-- The span of a kind. -/
def spanB (o : Option Mea) : Bool := match o with | some _ => true | none => false
def spanL (o : Option Mea) : Int := match o with | some x => x.2.1 - x.2.2 | none => 0
def spanH (o : Option Mea) : Int := match o with | some x => x.2.1 + x.2.2 | none => 0
theorem spanO_eq {k : Int} : ∀ {l : List Mea}, (∀ x ∈ l, okV x) → spanO k l = some (spanT (spanL (getM l k)) (spanH (getM l k)) (spanB (getM l k)))
  | [], _ => rfl
  | x :: l, h => by
    show cond (intBeq x.1 k) (some (spanT (loI x) (hiI x) true)) (spanO k l) = _
    rw [getM_cons]
    cases hk : intBeq x.1 k with
    | true =>
      rw [intBeq_iff] at hk
      rw [if_pos hk, loI_eq (h x (.head _)), hiI_eq (h x (.head _))]
      rfl
    | false =>
      rw [← Bool.not_eq_true, intBeq_iff] at hk
      rw [if_neg hk]
      exact spanO_eq fun y hy => h y (.tail _ hy)
theorem span_of (hmix : Tryz.prog.follows .mixedOrders = true) {no el sd : Int} {a b d e : Nat} {lo hi sex wear layer square : Int} {oc : Option Nat} {l : List Mea} (hv : ∀ x ∈ l, okV x) {k : Int} {ms : Value} (hm : MeaAt W ms oc l)
    (hr : valK Tryz.prog (semS Tryz.prog W 1 noTb) 60 72 [.agg (finL no el sd a b d e (mvOf 0 oc l) lo hi sex wear layer square), i64 k] (roSt (meaC l)) = spanO k l)
    (ha : askK Tryz.prog (semS Tryz.prog W 1 noTb) 60 72 [.agg (finL no el sd a b d e (mvOf 0 oc l) lo hi sex wear layer square), i64 k] (roSt (meaC l)) false = askK Tryz.prog (semS Tryz.prog W 1 noTb) 60 72 [.agg (finL no el sd a b d e (mvOf 0 oc l) lo hi sex wear layer square), i64 k] (roSt (meaC l)) true) :
    Calls Tryz.prog 72 #[.agg (finVs no el sd a b d e ms lo hi sex wear layer square).toArray, .int .i64 k] W fun e w' => e = .returned (.tuple #[.agg #[.int .i64 (spanL (getM l k)), .int .i64 (spanH (getM l k))], .bool (spanB (getM l k))]) ∧ Below W.heap.size W w' := by
  obtain ⟨ρ, hR, he⟩ := hm.rel (Below.refl _ _)
  refine (valK_step hmix (hr.trans (spanO_eq hv)) ha hR (us := [_, _]) (EL.cons (E_agg (EL_fin he)) (EL.cons (E_i64 k) EL.nil))).mono ?_
  rintro e w' ⟨ρ', s', u, rfl, hst, hE⟩
  obtain ⟨x, y, rfl, h1, h2⟩ := E_tup2 hE
  simp only [E] at h1
  obtain ⟨us, rfl, hl0⟩ := h1
  obtain ⟨r1, rfl, hl1⟩ := i64_inv hl0
  obtain ⟨r2, rfl, hl2⟩ := i64_inv hl1
  obtain rfl := EL.nil_inv hl2
  exact ⟨by rw [E_bool_inv h2], Step.belowOf hR hst noImg_ro⟩
theorem span_any (hmix : Tryz.prog.follows .mixedOrders = true) (no el sd : Int) (a b d e : Nat) (lo hi sex wear layer square : Int) {oc : Option Nat} {l : List Mea} (ho : oc = none → l = []) (hv : ∀ x ∈ l, okV x) (hlen : l.length ≤ 8) (k : Int) {ms : Value} (hm : MeaAt W ms oc l) :
    Calls Tryz.prog 72 #[.agg (finVs no el sd a b d e ms lo hi sex wear layer square).toArray, .int .i64 k] W fun e w' => e = .returned (.tuple #[.agg #[.int .i64 (spanL (getM l k)), .int .i64 (spanH (getM l k))], .bool (spanB (getM l k))]) ∧ Below W.heap.size W w' := by
  cases oc with
  | none =>
    have hl : l = [] := ho rfl
    subst hl
    exact span_of hmix hv hm (sp_n W no el sd a b d e lo hi sex wear layer square k) (spA_n W no el sd a b d e lo hi sex wear layer square k)
  | some cap =>
    match l, hm, hv, hlen with
    | [], hm, hv, _ => exact span_of hmix hv hm (sp_0 W no el sd a b d e lo hi sex wear layer square k cap ) (spA_0 W no el sd a b d e lo hi sex wear layer square k cap )
    | [x1], hm, hv, _ => exact span_of hmix hv hm (sp_1 W no el sd a b d e lo hi sex wear layer square k cap x1) (spA_1 W no el sd a b d e lo hi sex wear layer square k cap x1)
    | [x1, x2], hm, hv, _ => exact span_of hmix hv hm (sp_2 W no el sd a b d e lo hi sex wear layer square k cap x1 x2) (spA_2 W no el sd a b d e lo hi sex wear layer square k cap x1 x2)
    | [x1, x2, x3], hm, hv, _ => exact span_of hmix hv hm (sp_3 W no el sd a b d e lo hi sex wear layer square k cap x1 x2 x3) (spA_3 W no el sd a b d e lo hi sex wear layer square k cap x1 x2 x3)
    | [x1, x2, x3, x4], hm, hv, _ => exact span_of hmix hv hm (sp_4 W no el sd a b d e lo hi sex wear layer square k cap x1 x2 x3 x4) (spA_4 W no el sd a b d e lo hi sex wear layer square k cap x1 x2 x3 x4)
    | [x1, x2, x3, x4, x5], hm, hv, _ => exact span_of hmix hv hm (sp_5 W no el sd a b d e lo hi sex wear layer square k cap x1 x2 x3 x4 x5) (spA_5 W no el sd a b d e lo hi sex wear layer square k cap x1 x2 x3 x4 x5)
    | [x1, x2, x3, x4, x5, x6], hm, hv, _ => exact span_of hmix hv hm (sp_6 W no el sd a b d e lo hi sex wear layer square k cap x1 x2 x3 x4 x5 x6) (spA_6 W no el sd a b d e lo hi sex wear layer square k cap x1 x2 x3 x4 x5 x6)
    | [x1, x2, x3, x4, x5, x6, x7], hm, hv, _ => exact span_of hmix hv hm (sp_7 W no el sd a b d e lo hi sex wear layer square k cap x1 x2 x3 x4 x5 x6 x7) (spA_7 W no el sd a b d e lo hi sex wear layer square k cap x1 x2 x3 x4 x5 x6 x7)
    | [x1, x2, x3, x4, x5, x6, x7, x8], hm, hv, _ => exact span_of hmix hv hm (sp_8 W no el sd a b d e lo hi sex wear layer square k cap x1 x2 x3 x4 x5 x6 x7 x8) (spA_8 W no el sd a b d e lo hi sex wear layer square k cap x1 x2 x3 x4 x5 x6 x7 x8)
    | x1 :: x2 :: x3 :: x4 :: x5 :: x6 :: x7 :: x8 :: x9 :: r, _, _, hlen => simp only [List.length_cons] at hlen; omega
theorem span_calls (hmix : Tryz.prog.follows .mixedOrders = true) {f : Fd} (hf : f.OK) (hv : f.Valid) (k : Int) {ms : Value} (hm : MeaAt W ms f.oc f.l) :
    Calls Tryz.prog 72 #[f.U ms, .int .i64 k] W fun e w' => e = .returned (.tuple #[.agg #[.int .i64 (spanL (getM f.l k)), .int .i64 (spanH (getM f.l k))], .bool (spanB (getM f.l k))]) ∧ Below W.heap.size W w' :=
  span_any hmix f.no f.el f.sd f.a f.b f.d f.e f.lo f.hi f.sex f.wear f.layer f.square hf.ho hv.list.2.2 hv.list.1 k hm
end Go.Proofs.YtilfiadkhohfiaaGreatDoor
